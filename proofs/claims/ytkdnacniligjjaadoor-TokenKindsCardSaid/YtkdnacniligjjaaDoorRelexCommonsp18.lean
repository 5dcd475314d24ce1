/-
  relex: the parts that edits meet.; Plain mathematics of relex: the groups of edits are parts (Chain).
-/
import Derived.Test.YtkdnacniligjjaaDoorRelexCommonsp17
import Derived.Test.YtkdnacniligjjaaDoorRelexCommonsp9
import Derived.Test.YtkdnacniligjjaaDoorRelexCommonsp14
namespace Go.Proofs.YtkdnacniligjjaaDoor
set_option linter.unusedVariables false
set_option linter.unusedSimpArgs false
open Go.RowKit

def pushP (acc : List (Nat × Nat)) (p : Nat × Nat) : List (Nat × Nat) :=
  match acc.getLast? with
  | none => [p]
  | some q => if p.1 ≤ q.2 then acc.dropLast ++ [(q.1, p.2)] else acc ++ [p]
theorem pushP_nil (p : Nat × Nat) : pushP [] p = [p] := rfl
theorem pushP_snoc (acc : List (Nat × Nat)) (q p : Nat × Nat) : pushP (acc ++ [q]) p = if p.1 ≤ q.2 then acc ++ [(q.1, p.2)] else acc ++ [q] ++ [p] := by
  unfold pushP
  rw [List.getLast?_concat]
  simp only [List.dropLast_concat]
def metP (s : ByteArray) (bs : List Nat) (e : Ed) : Nat × Nat := (metF s bs e.f.toNat, metT s bs e.t.toNat)
def partsL (s : ByteArray) (bs : List Nat) (es : List Ed) : List (Nat × Nat) := es.foldl (fun acc e => pushP acc (metP s bs e)) []
theorem partsL_take {s : ByteArray} {bs : List Nat} {es : List Ed} {k : Nat} (h : k < es.length) : partsL s bs (es.take (k + 1)) = pushP (partsL s bs (es.take k)) (metP s bs es[k]) := by
  unfold partsL
  rw [List.take_succ_eq_append_getElem h, List.foldl_append]; rfl
def ptCells (l : List (Nat × Nat)) : List Value := l.flatMap fun p => [Value.int .i64 ((p.1 : Nat) : Int), Value.int .i64 ((p.2 : Nat) : Int)]
theorem ptCells_append (l : List (Nat × Nat)) (p : Nat × Nat) : ptCells (l ++ [p]) = ptCells l ++ [Value.int .i64 ((p.1 : Nat) : Int), Value.int .i64 ((p.2 : Nat) : Int)] := by simp [ptCells]
theorem ptCells_length : ∀ l : List (Nat × Nat), (ptCells l).length = l.length * 2
  | [] => rfl
  | p :: l => by
    have := ptCells_length l
    simp only [ptCells, List.flatMap_cons, List.length_append, List.length_cons, List.length_nil] at this ⊢
    omega
theorem ptCells_get : ∀ (l : List (Nat × Nat)) (i : Nat) (p : Nat × Nat), l[i]? = some p → (ptCells l)[i * 2]? = some (Value.int .i64 ((p.1 : Nat) : Int)) ∧ (ptCells l)[i * 2 + 1]? = some (Value.int .i64 ((p.2 : Nat) : Int))
  | [], i, p, h => by simp at h
  | e :: l, 0, p, h => by
    simp at h; subst h
    simp [ptCells]
  | e :: l, i + 1, p, h => by
    have := ptCells_get l i p (by simpa using h)
    rw [show (i + 1) * 2 = i * 2 + 2 by omega]
    simpa [ptCells] using this
theorem pt_set (init : List (Nat × Nat)) (q : Nat × Nat) (y : Nat) : (ptCells (init ++ [q])).set (init.length * 2 + 1) (Value.int .i64 ((y : Nat) : Int)) = ptCells (init ++ [(q.1, y)]) := by
  rw [ptCells_append, ptCells_append, List.set_append_right _ _ (by rw [ptCells_length]; omega), ptCells_length, show init.length * 2 + 1 - init.length * 2 = 1 by omega]
  rfl
theorem own_shapeP {w : World} {base e size n : Nat} {v : Value} {xs : List Value} (h : w.ownsRow base e size v n xs) : ∃ ao cap, v = .slice ao n cap ∧ (0 < n → ∃ g, ao = some ⟨g, 0, none⟩ ∧ base ≤ g ∧ g < w.heap.size) := by
  rcases h.2 with ⟨h1, h2⟩ | ⟨g, cap, cur, h1, hb, hg, _⟩
  · exact ⟨none, 0, by rw [h1, h2], fun h => by omega⟩
  · refine ⟨some ⟨g, 0, none⟩, cap, h1, fun _ => ⟨g, rfl, hb, ?_⟩⟩
    rcases Nat.lt_or_ge g w.heap.size with h' | h'
    · exact h'
    · rw [Array.getElem?_eq_none h'] at hg; cases hg
theorem infoPart : (Tryd.prog.info? 81).map (fun i => (i.zero, i.size, i.bytes)) = some (some (.agg #[.int .i64 0, .int .i64 0]), 2, 16) := by kernel_rfl
theorem pushP_len (acc : List (Nat × Nat)) (p : Nat × Nat) : (pushP acc p).length ≤ acc.length + 1 := by
  rcases List.eq_nil_or_concat acc with rfl | ⟨init, q, rfl⟩
  · simp [pushP_nil]
  · rw [List.concat_eq_append, pushP_snoc]
    split <;> simp

set_option maxRecDepth 100000 in
set_option maxHeartbeats 4000000 in
theorem parts_own (s : ByteArray) (c ce : Nat) (A Ae : Option Addr) (bs : List Nat) (es : List Ed) (w : World) (hs : s.size ≤ 60000) (hl : bs.length ≤ 100000) (hr : ∀ i j (hi : i < bs.length) (hj : j < bs.length), i ≤ j → bs[i] ≤ bs[j]) (hE : IntsV w A bs) (hel : es.length ≤ 1000) (hri : rising s.size 0 es = true) (hEe : EdsV w Ae es) :
    Calls Tryd.prog 52 #[.agg #[.string s, .slice A bs.length c], .slice Ae es.length ce] w fun e w' => ∃ v, e = .returned v ∧ w'.ownsRow (w.heap.size + 1) 81 2 v (partsL s bs es).length (ptCells (partsL s bs es)) ∧ Below w.heap.size w w' := by
  obtain ⟨i0, hi0, hz0, hz1, hz2⟩ := info_parts infoPart
  obtain ⟨w0, hw0⟩ : ∃ w0, w0 = w.alloc (.cells #[.string s, .slice A bs.length c] 76) := ⟨_, rfl⟩
  have hB0 : Below w.heap.size w w0 := by rw [hw0]; exact (Below.refl _ _).alloc (Nat.le_refl _) _
  have h1 : w0.heap[w.heap.size]? = some (.cells #[.string s, .slice A bs.length c] 76 (0, 0)) := by rw [hw0]; exact heap_alloc_new w _
  have hsz0 : w0.heap.size = w.heap.size + 1 := by rw [hw0]; simp
  have HSZ := Lib.hid hsz0
  have hlt0 : w.heap.size < w0.heap.size := by omega
  clear hsz0
  have HB0 := Lib.hid hB0
  have H1 := Lib.hid h1
  have HW0 := Lib.hid hw0
  have HE := Lib.hid (hE.below hB0)
  have HEe := Lib.hid (hEe.below hB0)
  have HR := Lib.hid hr
  have HRi := Lib.hid hri
  clear hw0 h1 hB0 hE hEe hr hri
  go_enter Tryd.func52, Tryd.ntmps52
  go_wp2_with fail
  rw [← HW0.out]
  go_loopw [5, 7, 8, 9, 12] (fun v _ _ _ i wr => ∃ (k : Nat) (acc : List (Nat × Nat)) (v0 : Value), v0 = v ∧ k ≤ es.length ∧ i = .int .i64 k ∧ acc = partsL s bs (es.take k) ∧ acc.length ≤ k ∧ wr.ownsRow w0.heap.size 81 2 v0 acc.length (ptCells acc) ∧ Below w0.heap.size w0 wr) (fun _ _ _ _ i _ => es.length - (intOf i).toNat)
  case atStart => exact ⟨0, [], _, rfl, Nat.zero_le _, rfl, rfl, Nat.le_refl _, World.ownsRow_nil _ _ _ _, Below.refl _ _⟩
  case round =>
    obtain ⟨k, acc, v, rfl, hk, rfl, hacc, hal, hown, hB⟩ := hrel
    have hk0 : (0 : Int) ≤ (k : Int) := by omega
    have hsr := hB.size
    by_cases hlt : k < es.length
    · have hk1 : (k : Int) < (es.length : Int) := by omega
      have hrg := rising_get HRi.out hlt
      have hst := partsL_take (s := s) (bs := bs) hlt
      obtain ⟨be, oe, x, y, sx, rfl, hbe, c1, c2, c3, hek⟩ := (HEe.out.below hB).getN hlt (by omega) (by omega)
      rw [hek] at hrg hst
      simp only at hrg
      have hmp : metP s bs ⟨x, y, sx⟩ = (metF s bs x, metT s bs y) := by unfold metP; simp
      rw [hmp, ← hacc] at hst
      have hml := pushP_len acc (metF s bs x, metT s bs y)
      rw [← hst] at hml
      have Hlen := Lib.hid (show (partsL s bs (es.take (k + 1))).length ≤ k + 1 by omega)
      obtain ⟨w2, hw2⟩ : ∃ w2, w2 = wr.alloc (.cells #[.int .i64 (x : Int), .int .i64 (y : Int), .string sx] 47) := ⟨_, rfl⟩
      have hB2 : Below w0.heap.size w0 w2 := by rw [hw2]; exact hB.alloc hsr _
      have h22 : w2.heap[wr.heap.size]? = some (.cells #[.int .i64 (x : Int), .int .i64 (y : Int), .string sx] 47 (0, 0)) := by rw [hw2]; exact heap_alloc_new wr _
      have hown2 : w2.ownsRow w0.heap.size 81 2 v acc.length (ptCells acc) := by rw [hw2]; exact hown.alloc _
      have h21 := (hB2.block w.heap.size hlt0).trans H1.out
      have m0 : w2.cell? ⟨w.heap.size, 0, none⟩ = some (.string s) := Lib.cell_of_heap h21 0
      have m1 : w2.cell? ⟨w.heap.size, 1, none⟩ = some (.slice A bs.length c) := Lib.cell_of_heap h21 1
      have h21r := (hB.block w.heap.size hlt0).trans H1.out
      have m0r : wr.cell? ⟨w.heap.size, 0, none⟩ = some (.string s) := Lib.cell_of_heap h21r 0
      have m1r : wr.cell? ⟨w.heap.size, 1, none⟩ = some (.slice A bs.length c) := Lib.cell_of_heap h21r 1
      have hltr : w.heap.size < wr.heap.size := by omega
      have hner : w.heap.size ≠ wr.heap.size := by omega
      have n0 : w2.cell? ⟨wr.heap.size, 0, none⟩ = some (.int .i64 (x : Int)) := Lib.cell_of_heap h22 0
      have n1 : w2.cell? ⟨wr.heap.size, 1, none⟩ = some (.int .i64 (y : Int)) := Lib.cell_of_heap h22 1
      have n2 : w2.cell? ⟨wr.heap.size, 2, none⟩ = some (.string sx) := Lib.cell_of_heap h22 2
      have hmet := met_any s c A bs x y sx w2 hs (by omega) (by omega) hl HR.out (HE.out.below hB2)
      obtain ⟨mf, hmf⟩ : ∃ n, n = metF s bs x := ⟨_, rfl⟩
      obtain ⟨mt, hmt⟩ : ∃ n, n = metT s bs y := ⟨_, rfl⟩
      rw [← hmf, ← hmt] at hst hmet
      have Hst := Lib.hid hst
      have Hmet := Lib.hid hmet
      have HW2 := Lib.hid hw2
      have Hacc := Lib.hid hacc
      have hm1000 : acc.length ≤ 1000 := by omega
      clear hw2 h22 h21 h21r hmet hst hmp hml hek hmf hmt hown hB hrg hacc
      go_wp2_with fail
      rw [← HW2.out]
      clear c1 c2 c3
      refine Hmet.out.mono ?_
      rintro e w3 ⟨rfl, hb3⟩
      have hown3 := ownsRow_belowT hown2 hb3
      have hB3 := hB2.trans (hb3.mono hB2.size)
      obtain ⟨w4, hw4⟩ : ∃ w4, w4 = w3.alloc (.cells #[.int .i64 (mf : Int), .int .i64 (mt : Int)] 81) := ⟨_, rfl⟩
      have hB4 : Below w0.heap.size w0 w4 := by rw [hw4]; exact hB3.alloc hB3.size _
      have hown4 : w4.ownsRow w0.heap.size 81 2 v acc.length (ptCells acc) := by rw [hw4]; exact hown3.alloc _
      have h44 : w4.heap[w3.heap.size]? = some (.cells #[.int .i64 (mf : Int), .int .i64 (mt : Int)] 81 (0, 0)) := by rw [hw4]; exact heap_alloc_new w3 _
      have p0 : w4.cell? ⟨w3.heap.size, 0, none⟩ = some (.int .i64 (mf : Int)) := Lib.cell_of_heap h44 0
      have p1 : w4.cell? ⟨w3.heap.size, 1, none⟩ = some (.int .i64 (mt : Int)) := Lib.cell_of_heap h44 1
      have hs4 := hB4.size
      have HW4 := Lib.hid hw4
      have how := hown4
      obtain ⟨m, hm⟩ : ∃ m, m = acc.length := ⟨_, rfl⟩
      rw [← hm] at how
      obtain ⟨ao, cap, rfl, hao⟩ := own_shapeP how
      clear hw4 h44 hown2 hown3 hB2 hB3 hb3 m0 m1 n0 n1 n2
      rcases List.eq_nil_or_concat acc with rfl | ⟨init, q, hcc⟩
      · obtain rfl : m = 0 := hm
        clear how hao
        go_wp2_with fail
        rw [← HW4.out]
        go_quiet (fail)
        obtain ⟨w5, hw5⟩ : ∃ w5, w5 = w4.drewN nq := ⟨_, rfl⟩
        have hown5 : w5.ownsRow w0.heap.size 81 2 (.slice ao 0 cap) ([] : List (Nat × Nat)).length (ptCells []) := by rw [hw5]; exact hown4
        have hB5 : Below w0.heap.size w0 w5 := by rw [hw5]; exact below_drewN hB4 nq
        have r0 : w5.cell? ⟨w3.heap.size, 0, none⟩ = some (.int .i64 (mf : Int)) := by rw [hw5]; exact p0
        have r1 : w5.cell? ⟨w3.heap.size, 1, none⟩ = some (.int .i64 (mt : Int)) := by rw [hw5]; exact p1
        rw [← hw5]
        clear hw5 p0 p1 hown4 hB4
        go_wp2_with (at_builtin; refine wpList_append_own _ rfl _ _ 78 rfl w0.heap.size 81 i0 _ 2 16 Tryd.underlying78 hi0 hz0 hz1 hz2 rfl (by decide) _ _ _ rfl (hown5.alloc _) ⟨w5.heap.size, 0, none⟩ 1 1 [.int .i64 (mf : Int), .int .i64 (mt : Int)] rfl rfl ?p1a ?p1b ?p1c ?p1d ?p1e ?_)
        case p1a => exact World.news_of_block (heap_alloc_new w5 _)
        case p1b => simp [Value.oneCell']
        case p1c => first | omega | (unfold maxLen; omega) | (simp [maxLen]; omega)
        case p1d => first | omega | simp
        case p1e =>
          have := hB5.size
          simp
          omega
        intro v6 w6 hown6 hgrow6 _
        have hB6 := (hB5.alloc hB5.size (.cells #[.int .i64 (mf : Int), .int .i64 (mt : Int)] 81)).grown hgrow6 (by simp; have := hB5.size; omega) (fun g hg => (hown5.lt g hg).1)
        have ho6 : w6.ownsRow w0.heap.size 81 2 v6 (partsL s bs (es.take (k + 1))).length (ptCells (partsL s bs (es.take (k + 1)))) := by
          rw [Hst.out, pushP_nil]
          exact hown6
        have Ho6 := Lib.hid ho6
        have HB6 := Lib.hid hB6
        clear hown6 ho6 hB6 hgrow6 hown5 hB5
        go_wp2_with fail
        exact ⟨⟨k + 1, partsL s bs (es.take (k + 1)), _, rfl, by omega, by go_num, rfl, Hlen.out, Ho6.out, HB6.out⟩, by simp only [intOf]; omega⟩
      · rw [List.concat_eq_append] at hcc
        subst hcc
        have hil : m = init.length + 1 := by rw [hm]; simp
        obtain ⟨g, rfl, hg1, hg2⟩ := hao (by omega)
        have hcg := ptCells_get (init ++ [q]) init.length q (by simp)
        rw [show init.length = m - 1 by omega] at hcg
        have g0 : w4.cell? ⟨g, (m - 1) * 2, none⟩ = some (.int .i64 ((q.1 : Nat) : Int)) := (how.cellAt ((m - 1) * 2) (by omega)).trans hcg.1
        have g1 : w4.cell? ⟨g, (m - 1) * 2 + 1, none⟩ = some (.int .i64 ((q.2 : Nat) : Int)) := (how.cellAt ((m - 1) * 2 + 1) (by omega)).trans hcg.2
        have gf : w4.frozen? ⟨g, (m - 1) * 2 + 1, none⟩ = false := how.frozenAt _
        obtain ⟨qa, qb⟩ := q
        simp only at g0 g1
        have HM := Lib.hid hm
        have HIL := Lib.hid hil
        have HOW := Lib.hid how
        have hm1 : 0 < m := by omega
        have hmb : m ≤ 1000 := by rw [hm]; exact hm1000
        have hm2 : (0 : Int) < (m : Int) := by omega
        have hm3 : (0 : Int) ≤ ((m - 1 : Nat) : Int) := by omega
        have hm4 : ((m - 1 : Nat) : Int) < (m : Int) := by omega
        have sm : IntKind.i64.wrap ((m : Int) - 1) = ((m - 1 : Nat) : Int) := by rw [IntWalk.i64_in _ (by omega)]; omega
        have q0 : decide ((0 : Int) ≤ ((m - 1 : Nat) : Int)) = true := decide_eq_true (by omega)
        clear hcg hil hm how hao
        by_cases hle : mf ≤ qb
        · have q1 : decide ((mf : Int) ≤ (qb : Int)) = true := decide_eq_true (by omega)
          go_wp2_with fail
          rw [← HW4.out]
          go_quiet (fail)
          go_wp2_with fail
          have st := (show (w4.drewN nq).ownsRow w0.heap.size 81 2 (.slice (some ⟨g, 0, none⟩) m cap) m (ptCells (init ++ [(qa, qb)])) from HOW.out).stored ((m - 1) * 2 + 1) (.int .i64 ((mt : Nat) : Int))
          have hB6 := (below_drewN hB4 nq).setCell (p := ⟨g, (m - 1) * 2 + 1, none⟩) hg1 (.int .i64 ((mt : Nat) : Int))
          refine ⟨⟨k + 1, partsL s bs (es.take (k + 1)), _, rfl, by omega, by go_num, rfl, Hlen.out, ?_, hB6⟩, by simp only [intOf]; omega⟩
          have h7 := st.1
          have hil := HIL.out
          rw [show (m - 1) * 2 + 1 = init.length * 2 + 1 by omega, pt_set] at h7
          rw [show (m - 1) * 2 + 1 = init.length * 2 + 1 by omega, Hst.out, pushP_snoc, if_pos hle, show (init ++ [(qa, mt)]).length = m by simp [hil]]
          exact h7
        · have q1 : decide ((mf : Int) ≤ (qb : Int)) = false := decide_eq_false (by omega)
          go_wp2_with fail
          rw [← HW4.out]
          go_quiet (fail)
          obtain ⟨w5, hw5⟩ : ∃ w5, w5 = w4.drewN nq := ⟨_, rfl⟩
          have hown5 : w5.ownsRow w0.heap.size 81 2 (.slice (some ⟨g, 0, none⟩) m cap) (init ++ [(qa, qb)]).length (ptCells (init ++ [(qa, qb)])) := by rw [hw5]; exact hown4
          have hB5 : Below w0.heap.size w0 w5 := by rw [hw5]; exact below_drewN hB4 nq
          have r0 : w5.cell? ⟨w3.heap.size, 0, none⟩ = some (.int .i64 (mf : Int)) := by rw [hw5]; exact p0
          have r1 : w5.cell? ⟨w3.heap.size, 1, none⟩ = some (.int .i64 (mt : Int)) := by rw [hw5]; exact p1
          rw [← hw5]
          clear hw5 p0 p1 hown4 hB4
          go_wp2_with (at_builtin; refine wpList_append_own _ rfl _ _ 78 rfl w0.heap.size 81 i0 _ 2 16 Tryd.underlying78 hi0 hz0 hz1 hz2 rfl (by decide) _ _ _ rfl (hown5.alloc _) ⟨w5.heap.size, 0, none⟩ 1 1 [.int .i64 (mf : Int), .int .i64 (mt : Int)] rfl rfl ?p2a ?p2b ?p2c ?p2d ?p2e ?_)
          case p2a => exact World.news_of_block (heap_alloc_new w5 _)
          case p2b => simp [Value.oneCell']
          case p2c => first | omega | (unfold maxLen; omega) | (simp [maxLen]; omega)
          case p2d => first | omega | simp
          case p2e =>
            have := hB5.size
            simp
            omega
          intro v6 w6 hown6 hgrow6 _
          have hB6 := (hB5.alloc hB5.size (.cells #[.int .i64 (mf : Int), .int .i64 (mt : Int)] 81)).grown hgrow6 (by simp; have := hB5.size; omega) (fun g hg => (hown5.lt g hg).1)
          have ho6 : w6.ownsRow w0.heap.size 81 2 v6 (partsL s bs (es.take (k + 1))).length (ptCells (partsL s bs (es.take (k + 1)))) := by
            rw [Hst.out, pushP_snoc, if_neg hle, ptCells_append, show (init ++ [(qa, qb)] ++ [(mf, mt)]).length = init.length + 1 + 1 by simp]
            exact hown6
          have Ho6 := Lib.hid ho6
          have HB6 := Lib.hid hB6
          clear hown6 ho6 hB6 hgrow6 hown5 hB5
          go_wp2_with fail
          exact ⟨⟨k + 1, partsL s bs (es.take (k + 1)), _, rfl, by omega, by go_num, rfl, Hlen.out, Ho6.out, HB6.out⟩, by simp only [intOf]; omega⟩
    · have hke : k = es.length := by omega
      subst hke
      rw [List.take_length] at hacc
      have q : decide ((es.length : Int) < (es.length : Int)) = false := by simp
      have Ha := Lib.hid hacc
      have hfin : Below w.heap.size w wr := HB0.out.trans (hB.mono (Nat.le_of_lt hlt0))
      have Hf := Lib.hid hfin
      have Ho := Lib.hid hown
      clear hacc hfin hown hB
      go_wp2_with fail
      go_ret
      refine ⟨_, rfl, ?_, Hf.out⟩
      rw [← Ha.out, ← HSZ.out]
      exact Ho.out
end Go.Proofs.YtkdnacniligjjaaDoor

namespace Go.Proofs.YtkdnacniligjjaaDoor
set_option linter.unusedVariables false
set_option linter.unusedSimpArgs false

theorem srch_at : ∀ {bs : List Nat} {x : Int} (i : Nat), (∀ j (hj : j < bs.length), j < i → ((bs[j] : Nat) : Int) < x) → (∀ (hi : i < bs.length), x ≤ ((bs[i] : Nat) : Int)) → i ≤ bs.length → srch bs x = i := fun i h1 h2 h3 => srch_is (fun j hj hjl => h1 j hjl hj) h2 h3
theorem srch_get : ∀ (bs : List Nat) (x : Int), (∀ j (hj : j < bs.length), j < srch bs x → ((bs[j] : Nat) : Int) < x) ∧ (∀ (hi : srch bs x < bs.length), x ≤ ((bs[srch bs x] : Nat) : Int))
  | [], x => ⟨fun j hj => by simp at hj, fun h => by simp at h⟩
  | b :: l, x => by
    by_cases hx : x ≤ ((b : Nat) : Int)
    · have : srch (b :: l) x = 0 := by simp only [srch]; rw [if_pos hx]
      rw [this]
      exact ⟨fun j _ h => by omega, fun _ => hx⟩
    · have h0 : srch (b :: l) x = srch l x + 1 := by simp only [srch]; rw [if_neg hx]
      obtain ⟨h1, h2⟩ := srch_get l x
      constructor
      · intro j hj hlt
        cases j with
        | zero => simp only [List.getElem_cons_zero]; omega
        | succ j => simp only [List.getElem_cons_succ]; exact h1 j (by simpa using hj) (by omega)
      · intro hi
        simp only [h0] at hi ⊢
        simp only [List.getElem_cons_succ]
        exact h2 (by simpa using hi)
/-- the places of the tokens: what srch finds there -/
theorem srch_pos (s : ByteArray) {x : Nat} (hx : x ≤ s.size) : srch (begL (lexL s)) (x : Int) ≤ (lexL s).length ∧ x ≤ posB (lexL s) (srch (begL (lexL s)) (x : Int)) ∧ (∀ j, j < srch (begL (lexL s)) (x : Int) → posB (lexL s) j < x) := by
  have hle := srch_le (begL (lexL s)) (x : Int)
  obtain ⟨h1, h2⟩ := srch_get (begL (lexL s)) (x : Int)
  rw [begL_length] at hle
  generalize srch (begL (lexL s)) (x : Int) = n at hle h1 h2
  have hn : n ≤ (lexL s).length := by
    rcases Nat.lt_or_ge (lexL s).length n with h | h
    · exfalso
      have := h1 (lexL s).length (by rw [begL_length]; omega) h
      rw [begL_get, posB_size] at this
      omega
    · exact h
  refine ⟨hn, ?_, fun j hj => ?_⟩
  · have := h2 (by rw [begL_length]; omega)
    rw [begL_get] at this
    omega
  · have := h1 j (by rw [begL_length]; omega) hj
    rw [begL_get] at this
    omega
theorem posB_inj_le {s : ByteArray} {i j : Nat} (hi : i ≤ (lexL s).length) (h : posB (lexL s) i ≤ posB (lexL s) j) : i ≤ j := by
  rcases Nat.lt_or_ge j i with h' | h'
  · have hpos : ∀ p ∈ lexL s, 0 < p.2.size := fun p hp => (lexL_each s.size s (Nat.le_refl _) p hp).2
    have := posB_lt (L := lexL s) hpos h' hi
    omega
  · exact h'
/-- what met gives of one edit -/
theorem met_spec (s : ByteArray) {f t : Nat} (hft : f ≤ t) (ht : t ≤ s.size) :
    metT s (begL (lexL s)) t ≤ (lexL s).length ∧ posB (lexL s) (metF s (begL (lexL s)) f) ≤ f ∧ t ≤ posB (lexL s) (metT s (begL (lexL s)) t) ∧
    (metF s (begL (lexL s)) f = 0 ∨ ∃ q, at10 s q ∧ metF s (begL (lexL s)) f < (lexL s).length ∧ posB (lexL s) (metF s (begL (lexL s)) f) ≤ q ∧ q < posB (lexL s) (metF s (begL (lexL s)) f + 1) ∧ q < f) ∧
    (metT s (begL (lexL s)) t = (lexL s).length ∨ ∃ q, at10 s q ∧ 0 < metT s (begL (lexL s)) t ∧ posB (lexL s) (metT s (begL (lexL s)) t - 1) ≤ q ∧ q < posB (lexL s) (metT s (begL (lexL s)) t) ∧ t ≤ q) := by
  obtain ⟨_, hf1, hf2⟩ := lnF_spec (s := s) (f := f) (by omega)
  obtain ⟨ht1, ht2, ht3⟩ := lnT_spec ht
  obtain ⟨a1, a2, a3⟩ := srch_pos s (x := lnF s f) (by omega)
  obtain ⟨b1, b2, b3⟩ := srch_pos s (x := lnT s t) ht2
  unfold metF metT
  generalize srch (begL (lexL s)) (lnF s f : Nat) = i at a1 a2 a3
  generalize srch (begL (lexL s)) (lnT s t : Nat) = j at b1 b2 b3
  have hpos : ∀ p ∈ lexL s, 0 < p.2.size := fun p hp => (lexL_each s.size s (Nat.le_refl _) p hp).2
  refine ⟨b1, ?_, by omega, ?_, ?_⟩
  · rcases Nat.eq_zero_or_pos i with h0 | h0
    · subst h0; rw [posB_zero]; omega
    · have := a3 (i - 1) (by omega); omega
  · rcases hf2 with h0 | ⟨q, hq, hq10⟩
    · left
      rcases Nat.eq_zero_or_pos i with hi | hi
      · subst hi; rfl
      · have := a3 (i - 1) (by omega); omega
    · right
      have hi : 0 < i := by
        rcases Nat.eq_zero_or_pos i with hi | hi
        · subst hi; rw [posB_zero] at a2; omega
        · exact hi
      have h1 := a3 (i - 1) (by omega)
      rw [show i - 1 + 1 = i by omega]
      exact ⟨q, hq10, by omega, by omega, by omega, by omega⟩
  · rcases ht3 with h0 | ⟨q, hq, hq1, hq10⟩
    · left
      rw [h0] at b2
      have := posB_inj_le (s := s) (i := (lexL s).length) (j := j) (Nat.le_refl _) (by rw [posB_size]; exact b2)
      omega
    · right
      have hj : 0 < j := by
        rcases Nat.eq_zero_or_pos j with hj | hj
        · subst hj; rw [posB_zero] at b2; omega
        · exact hj
      have h1 := b3 (j - 1) (by omega)
      exact ⟨q, hq10, hj, by omega, by omega, hq1⟩
end Go.Proofs.YtkdnacniligjjaaDoor
