/-
  The contract of token's Apart; the tokens of two strings, one after the other.
-/
import Derived.Test.YtkdnacniligjjaaDoorRelexCommonsp7
import Derived.Test.YtkdnacniligjjaaDoorRelexCommonsp3
namespace Go.Proofs.YtkdnacniligjjaaDoor
set_option linter.unusedVariables false
set_option linter.unusedSimpArgs false
open Go.RowKit

theorem isTok_small {k : Int} {s : ByteArray} (h : isTok (k, s) = true) : s.size ≤ 20000 := by
  unfold isTok lexesB at h
  rw [Bool.and_eq_true] at h
  exact of_decide_eq_true h.1

set_option maxRecDepth 100000 in
set_option maxHeartbeats 1000000 in
theorem Apart_any (k1 : Int) (s1 : ByteArray) (k2 : Int) (s2 : ByteArray) (w : World) (hT : Tabs w) :
    Calls Tryd.prog 15 #[.agg #[.int .i64 k1, .string s1], .agg #[.int .i64 k2, .string s2]] w fun e w' => e = .returned (.bool (apartB (k1, s1) (k2, s2))) ∧ Below w.heap.size w w' := by
  obtain ⟨w0, hw0⟩ : ∃ w0, w0 = (w.alloc (.cells #[.int .i64 k1, .string s1] 24)).alloc (.cells #[.int .i64 k2, .string s2] 24) := ⟨_, rfl⟩
  have hB0 : Below w.heap.size w w0 := by rw [hw0]; exact ((Below.refl _ _).alloc (Nat.le_refl _) _).alloc (by simp) _
  have h1 : w0.heap[w.heap.size]? = some (.cells #[.int .i64 k1, .string s1] 24 (0, 0)) := by rw [hw0]; exact (Below.heap_alloc _ _ _ (by simp)).trans (heap_alloc_new w _)
  have h2 : w0.heap[w.heap.size + 1]? = some (.cells #[.int .i64 k2, .string s2] 24 (0, 0)) := by rw [hw0]; exact heap_alloc2T w _ _
  have hz0 : w.heap.size + 2 = w0.heap.size := by rw [hw0]; simp
  have m0 : w0.cell? ⟨w.heap.size, 0, none⟩ = some (.int .i64 k1) := Lib.cell_of_heap h1 0
  have m1 : w0.cell? ⟨w.heap.size, 1, none⟩ = some (.string s1) := Lib.cell_of_heap h1 1
  have HT := Lib.hid (hT.below hB0)
  have HB0 := Lib.hid hB0
  have H1 := Lib.hid h1
  have H2 := Lib.hid h2
  clear hT hB0 h1 h2
  cases q1 : isTok (k1, s1)
  · have hr : Hid (apartB (k1, s1) (k2, s2) = false) := Lib.hid (by unfold apartB; rw [q1]; rfl)
    go_enter Tryd.func15, Tryd.ntmps15
    go_wp2_with fail
    rw [← hw0]
    refine (IsToken_any k1 s1 w0 HT.out).mono ?_
    rw [q1]
    rintro e w1 ⟨rfl, hb1⟩
    go_wp2_with fail
    go_ret
    exact ⟨ret_b hr.out.symm, HB0.out.trans (hb1.mono HB0.out.size)⟩
  · cases q2 : isTok (k2, s2)
    · have hr : Hid (apartB (k1, s1) (k2, s2) = false) := Lib.hid (by unfold apartB; rw [q1, q2]; rfl)
      go_enter Tryd.func15, Tryd.ntmps15
      go_wp2_with fail
      rw [← hw0]
      refine (IsToken_any k1 s1 w0 HT.out).mono ?_
      rw [q1]
      rintro e w1 ⟨rfl, hb1⟩
      have hB1 := HB0.out.trans (hb1.mono HB0.out.size)
      have g2 := (hb1.block _ (by omega)).trans H2.out
      have n0 : w1.cell? ⟨w.heap.size + 1, 0, none⟩ = some (.int .i64 k2) := Lib.cell_of_heap g2 0
      have n1 : w1.cell? ⟨w.heap.size + 1, 1, none⟩ = some (.string s2) := Lib.cell_of_heap g2 1
      clear g2
      go_wp2_with fail
      refine (IsToken_any k2 s2 w1 (HT.out.below hb1)).mono ?_
      rw [q2]
      rintro e w2 ⟨rfl, hb2⟩
      go_wp2_with fail
      go_ret
      exact ⟨ret_b hr.out.symm, hB1.trans (hb2.mono hB1.size)⟩
    · have z1 := isTok_small q1
      have z2 := isTok_small q2
      have z3 : s1.size + s2.size ≤ maxLen := by unfold maxLen; omega
      have z4 : ¬ maxLen < s1.size + s2.size := by unfold maxLen; omega
      have z5 : s1.size + s2.size ≤ 9223372036854775807 := by omega
      have hr : Hid (apartB (k1, s1) (k2, s2) = lexesB (s1 ++ s2) [(k1, s1), (k2, s2)]) := Lib.hid (by unfold apartB; rw [q1, q2]; rfl)
      go_enter Tryd.func15, Tryd.ntmps15
      go_wp2_with fail
      rw [← hw0]
      refine (IsToken_any k1 s1 w0 HT.out).mono ?_
      rw [q1]
      rintro e w1 ⟨rfl, hb1⟩
      have hB1 := HB0.out.trans (hb1.mono HB0.out.size)
      have g2 := (hb1.block _ (by omega)).trans H2.out
      have g1 := (hb1.block _ (by omega)).trans H1.out
      have hz1 := hb1.size
      have n0 : w1.cell? ⟨w.heap.size + 1, 0, none⟩ = some (.int .i64 k2) := Lib.cell_of_heap g2 0
      have n1 : w1.cell? ⟨w.heap.size + 1, 1, none⟩ = some (.string s2) := Lib.cell_of_heap g2 1
      have G1 := Lib.hid g1
      have G2 := Lib.hid g2
      clear g1 g2
      go_wp2_with fail
      refine (IsToken_any k2 s2 w1 (HT.out.below hb1)).mono ?_
      rw [q2]
      rintro e w2 ⟨rfl, hb2⟩
      have hB2 := hB1.trans (hb2.mono hB1.size)
      have g2 := (hb2.block _ (by omega)).trans G2.out
      have g1 := (hb2.block _ (by omega)).trans G1.out
      have p0 : w2.cell? ⟨w.heap.size, 0, none⟩ = some (.int .i64 k1) := Lib.cell_of_heap g1 0
      have p1 : w2.cell? ⟨w.heap.size, 1, none⟩ = some (.string s1) := Lib.cell_of_heap g1 1
      have r0 : w2.cell? ⟨w.heap.size + 1, 0, none⟩ = some (.int .i64 k2) := Lib.cell_of_heap g2 0
      have r1 : w2.cell? ⟨w.heap.size + 1, 1, none⟩ = some (.string s2) := Lib.cell_of_heap g2 1
      have hW : Below w2.heap.size w2 (w2.alloc (.cells #[.int .i64 k1, .string s1, .int .i64 k2, .string s2] 24)) := (Below.refl _ _).alloc (Nat.le_refl _) _
      have hE : TksV (w2.alloc (.cells #[.int .i64 k1, .string s1, .int .i64 k2, .string s2] 24)) (some ⟨w2.heap.size, 0, none⟩) [(k1, s1), (k2, s2)] := TksV.two (p := (k1, s1)) (q := (k2, s2)) (heap_alloc_new w2 _)
      have hc := lexesTo_any (s1 ++ s2) 2 _ [(k1, s1), (k2, s2)] _ (((HT.out.below hb1).below hb2).below hW) hE
      have Hc := Lib.hid hc
      have HW := Lib.hid hW
      clear hc hE hW g1 g2
      go_wp2_with fail
      refine Hc.out.mono ?_
      rintro e w3 ⟨rfl, hb3⟩
      go_wp2_with fail
      go_ret
      exact ⟨ret_b hr.out.symm, hB2.trans ((HW.out.trans (hb3.mono HW.out.size)).mono hB2.size)⟩

/-- the tokens of both, one after the other -/
theorem lexL_parts (t : ByteArray) (ht : 0 < t.size) (y0 : Tok) (hy : (lexL t).head? = some y0) : ∀ (n : Nat) (s : ByteArray), s.size ≤ n → 0 < s.size → ∀ last, (lexL s).getLast? = some last → apartB last y0 = true → lexL (s ++ t) = lexL s ++ lexL t
  | 0, s, h, hz, _, _, _ => by omega
  | n + 1, s, h, hz, last, hl, ha => by
    have hle := firstP_le s hz
    have hst := lexL_step hz
    have hzt := size_append s t
    have hst2 := lexL_step (s := s ++ t) (by omega)
    have hts := tail_size s (firstP s).2
    by_cases hlt : (firstP s).2 < s.size
    · have hfa := firstP_append s t hz hlt
      have htl := tail_append s t (Nat.le_of_lt hlt)
      have hhd := head_append s t (Nat.le_of_lt hlt)
      have ih := lexL_parts t ht y0 hy n (s.extract (firstP s).2 s.size) (by omega) (by omega)
      rw [hfa, htl, hhd] at hst2
      rw [hst2]
      have hl2 : (lexL (s.extract (firstP s).2 s.size)).getLast? = some last := by
        rw [hst] at hl
        have hstep := lexL_step (s := s.extract (firstP s).2 s.size) (by omega)
        generalize lexL (s.extract (firstP s).2 s.size) = L at hl hstep
        rw [hstep] at hl ⊢
        rw [List.getLast?_cons_cons] at hl
        exact hl
      rw [ih last hl2 ha, hst]
      rfl
    · have hn : (firstP s).2 = s.size := by omega
      have hsx : s.extract 0 (firstP s).2 = s := by
        rw [hn]; apply bytj; rw [byt_drop, List.drop_zero]
      rw [hsx, lexL_nil (s := s.extract (firstP s).2 s.size) (by omega)] at hst
      rw [hst] at hl
      have hlast : ((firstP s).1, s) = last := Option.some.inj hl
      have hstt := lexL_step (s := t) ht
      have hlet := firstP_le t ht
      rw [hstt] at hy
      have hy0 : ((firstP t).1, t.extract 0 (firstP t).2) = y0 := Option.some.inj hy
      obtain ⟨m, hm⟩ : ∃ m, m = (firstP t).2 := ⟨_, rfl⟩
      rw [← hm] at hy0 hlet
      have ha2 : lexL (s ++ t.extract 0 m) = [((firstP s).1, s), ((firstP t).1, t.extract 0 m)] := by
        rw [← hlast, ← hy0] at ha
        unfold apartB lexesB at ha
        rw [Bool.and_eq_true] at ha
        have ha2 := ha.2
        rw [Bool.and_eq_true] at ha2
        exact of_decide_eq_true ha2.2
      have hmz : (t.extract 0 m).size = m := by rw [ByteArray.size_extract]; omega
      have huz := size_append s (t.extract 0 m)
      have hstu := lexL_step (s := s ++ t.extract 0 m) (by omega)
      have hleu := firstP_le (s ++ t.extract 0 m) (by omega)
      rw [ha2] at hstu
      have e1 := congrArg (fun l : List Tok => l.head?.map Prod.fst) hstu
      have e2 := congrArg (fun l : List Tok => l.head?.map (fun p => p.2.size)) hstu
      simp only [List.head?_cons, Option.map_some, Option.some.injEq] at e1 e2
      rw [ByteArray.size_extract] at e2
      have hu2 : (firstP (s ++ t.extract 0 m)).2 = s.size := by omega
      have hfa := firstP_append (s ++ t.extract 0 m) (t.extract m t.size) (by omega) (by omega)
      have hass : (s ++ t.extract 0 m) ++ t.extract m t.size = s ++ t := by
        apply bytj
        rw [byt_append, byt_append, byt_append, byt_take, byt_drop, List.append_assoc, List.take_append_drop]
      rw [hass] at hfa
      rw [hst2, hfa, hu2, ← e1, head_append s t (Nat.le_refl _), tail_append s t (Nat.le_refl _)]
      have hs0 : s.extract 0 s.size = s := by apply bytj; rw [byt_drop, List.drop_zero]
      have hs1 : s.extract s.size s.size ++ t = t := by
        apply bytj
        rw [byt_append, byt_drop, List.drop_eq_nil_of_le (by rw [byt_length]; exact Nat.le_refl _)]; rfl
      rw [hs0, hs1, hst]
      rfl
end Go.Proofs.YtkdnacniligjjaaDoor
