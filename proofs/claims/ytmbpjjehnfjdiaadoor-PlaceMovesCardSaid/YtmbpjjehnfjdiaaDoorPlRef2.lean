/-
  Contracts of the specification's Begins and Of.
-/
import Derived.Test.YtmbpjjehnfjdiaaDoorPlSpan
namespace Go.Proofs.YtmbpjjehnfjdiaaDoor
set_option linter.unusedVariables false
set_option linter.unusedSimpArgs false
open Go.RowKit

theorem infoBool : (Tryd.prog.info? 4).map (fun i => (i.zero, i.size, i.bytes)) = some (some (.bool false), 1, 1) := by kernel_rfl
/-- for each offset whether a character begins there -/
def BegCells (s : ByteArray) (pos : Nat) (xs : List Value) : Prop := ∀ j, j ≤ s.size → ∃ b : Bool, xs[j]? = some (.bool b) ∧ (b = true ↔ (j < pos ∧ ∃ w, Ch s 0 j w))

set_option maxRecDepth 100000 in
set_option maxHeartbeats 2000000 in
theorem rBegins_any (s : ByteArray) (w : World) (hs : s.size ≤ 60000) :
    Calls Tryd.prog 15 #[.string s] w fun e w' => ∃ (g cap : Nat) (xs : List Value), e = .returned (.slice (some ⟨g, 0, none⟩) (s.size + 1) cap) ∧ w'.ownsRow w.heap.size 4 1 (.slice (some ⟨g, 0, none⟩) (s.size + 1) cap) (s.size + 1) xs ∧ BegCells s (s.size + 1) xs ∧ Below w.heap.size w w' := by
  obtain ⟨i0, hi0, hz0, hz1, hz2⟩ := info_parts infoBool
  go_enter Tryd.func15, Tryd.ntmps15
  go_wp2_with (at_make; refine wpList_make_full _ rfl _ _ 31 rfl w.heap.size 4 i0 _ 1 Tryd.underlying31 hi0 hz0 hz1 _ _ _ _ (s.size + 1) rfl rfl (by omega) (by omega) (by rw [hz2]; omega) (by unfold maxLen; omega) (Nat.le_refl _) ?_)
  intro w1 hown1 hgrow1
  have hb1 : Below w.heap.size w w1 := (Below.refl _ _).grown hgrow1 (Nat.le_refl _) (fun k hk => by cases hk)
  have hxs0 : BegCells s 0 (madeCells #[Value.bool false] (s.size + 1)).toList := by
    intro j hj
    refine ⟨false, ?_, by simp⟩
    rw [Array.getElem?_toList]
    have hj2 : j < (madeCells #[Value.bool false] (s.size + 1)).size := by rw [size_madeCells]; omega
    rw [Array.getElem?_eq_getElem hj2]
    simp [madeCells, Nat.mod_one]
  go_wp2_with fail
  go_loopw [4] (fun p wr => ∃ (pos u : Nat) (xs : List Value), p = .int .i64 (pos : Int) ∧ Ch s 0 pos u ∧ pos ≤ s.size ∧ wr.ownsRow w.heap.size 4 1 (.slice (some ⟨w.heap.size, 0, none⟩) (s.size + 1) (s.size + 1)) (s.size + 1) xs ∧ BegCells s pos xs ∧ Below w.heap.size w wr) (fun p _ => s.size - (intOf p).toNat)
  case atStart => exact ⟨0, 0, _, rfl, Ch.refl 0, by omega, hown1, hxs0, hb1⟩
  case round =>
    obtain ⟨pos, u, xs, rfl, hc, hle, hown, hx, hB⟩ := hrel
    obtain ⟨b0, hb0, _⟩ := hx pos hle
    have d1 : wr.cell? ⟨w.heap.size, pos, none⟩ = some (.bool b0) := by rw [hown.cellAt _ (by omega)]; exact hb0
    have f1 : wr.frozen? ⟨w.heap.size, pos, none⟩ = false := hown.frozenAt _
    have ho2 := (hown.stored pos (.bool true)).1
    have hB2 := hB.setCell (p := ⟨w.heap.size, pos, none⟩) (Nat.le_refl _) (.bool true)
    have hxl : xs.length = (s.size + 1) * 1 := hown.1
    have hcells : ∀ pos', pos < pos' → (∀ j, pos < j → j < pos' → ¬ ∃ w, Ch s 0 j w) → BegCells s pos' (xs.set pos (.bool true)) := by
      intro pos' h1 h2 j hj
      by_cases he : j = pos
      · subst he
        exact ⟨true, by rw [List.getElem?_set_self (by omega)], by simp only [true_iff]; exact ⟨h1, u, hc⟩⟩
      · obtain ⟨b, hb, hbi⟩ := hx j hj
        refine ⟨b, by rw [List.getElem?_set_ne (fun h => he h.symm)]; exact hb, hbi.trans ⟨fun ⟨h3, h4⟩ => ⟨by omega, h4⟩, fun ⟨h3, h4⟩ => ⟨?_, h4⟩⟩⟩
        rcases Nat.lt_or_ge j pos with h5 | h5
        · exact h5
        · exact absurd h4 (h2 j (by omega) h3)
    have HC := Lib.hid hcells
    clear hb0 hx hown hcells
    by_cases hp : pos < s.size
    · have Hc := Lib.hid hc
      have Hs := Lib.hid (hc.snoc hp)
      have hdn := dn_le s pos hp
      have hdp := dn_pos s pos
      clear hc
      go_wp2_with fail
      with_reducible refine (Char_any s pos _ hs hp).mono ?_
      rintro e w2 ⟨rfl, rfl⟩
      go_wp2_with fail
      exact ⟨⟨pos + dn s pos, _, _, by go_num, Hs.out, hdn, ho2, HC.out _ (by omega) (fun j h1 h2 ⟨w', h3⟩ => Hc.out.inside h1 h2 h3), hB2⟩, by simp [intOf]; omega⟩
    · have hpe : pos = s.size := by omega
      subst hpe
      clear hc
      go_wp2_with fail
      go_ret
      exact ⟨_, _, _, rfl, ho2, HC.out _ (Nat.lt_succ_self _) (fun j h1 h2 _ => by omega), hB2⟩

theorem PlaceAt.step_feed {s : ByteArray} {pos l c : Nat} (hp : pos < s.size) (hq : bt s pos = 10) (h : PlaceAt s pos l c) : dn s pos = 1 ∧ PlaceAt s (pos + dn s pos) (l + 1) 0 := by
  obtain ⟨rfl, h2⟩ := h
  have hd := (Ch.after_feed hp hq).1
  have hpl : pos < (byt s).length := by rw [byt_length]; exact hp
  have hb : (byt s)[pos] = 10 := (bt_feed s pos hpl).2 hq
  refine ⟨hd, ?_⟩
  rw [hd]
  exact ⟨by rw [feedsL_take _ pos hpl, if_pos hb], by rw [LS_feed _ pos hpl hb]; exact Ch.refl _⟩
theorem PlaceAt.step_other {s : ByteArray} {pos l c : Nat} (hp : pos < s.size) (hq : bt s pos ≠ 10) (h : PlaceAt s pos l c) : PlaceAt s (pos + dn s pos) l (c + dw s pos) := by
  obtain ⟨rfl, h2⟩ := h
  obtain ⟨h3, h4⟩ := LS_char s pos hp hq
  exact ⟨h4.symm, by rw [h3]; exact h2.snoc hp⟩
theorem PlaceAt.zero (s : ByteArray) : PlaceAt s 0 0 0 := ⟨by simp [feedsL], by rw [LS_zero]; exact Ch.refl 0⟩

set_option maxRecDepth 100000 in
set_option maxHeartbeats 2000000 in
theorem rOf_any (s : ByteArray) (o : Nat) (w : World) (hs : s.size ≤ 60000) (ho : o ≤ s.size) (hbd : ∃ u, Ch s 0 o u) :
    Calls Tryd.prog 16 #[.string s, .int .i64 (o : Int)] w fun e w' => (∃ l c : Nat, PlaceAt s o l c ∧ e = .returned (.agg #[.int .i64 (l : Int), .int .i64 (c : Int)])) ∧ Below w.heap.size w w' := by
  have hw0 : Below w.heap.size w (w.alloc (.cells #[.int .i64 0, .int .i64 0] 23)) := (Below.refl _ _).alloc (Nat.le_refl _) _
  have hk0 := heap_alloc_new w (.cells #[.int .i64 0, .int .i64 0] 23)
  have hk1 : ((w.alloc (.cells #[.int .i64 0, .int .i64 0] 23)).alloc (.cells #[.int .i64 0, .int .i64 0] 23)).heap[w.heap.size + 1]? = some (.cells #[.int .i64 0, .int .i64 0] 23 (0, 0)) := by
    have h := heap_alloc_new (w.alloc (.cells #[.int .i64 0, .int .i64 0] 23)) (.cells #[.int .i64 0, .int .i64 0] 23)
    rw [show (w.alloc (.cells #[.int .i64 0, .int .i64 0] 23)).heap.size = w.heap.size + 1 by simp] at h
    exact h
  have hk0' := (((Below.refl (w.alloc (.cells #[.int .i64 0, .int .i64 0] 23)).heap.size (w.alloc (.cells #[.int .i64 0, .int .i64 0] 23))).alloc (Nat.le_refl _) (.cells #[.int .i64 0, .int .i64 0] 23)).block w.heap.size (by simp)).trans hk0
  have HK := Lib.hid (And.intro hk0' hk1)
  have hB00 := hw0.alloc (by simp) (.cells #[.int .i64 0, .int .i64 0] 23)
  have HBD := Lib.hid hbd
  clear hk0 hk1 hk0' hbd
  go_enter Tryd.func16, Tryd.ntmps16
  go_wp2_with fail
  go_loopw [6] (fun p wr => ∃ (pos u l c : Nat), p = .int .i64 (pos : Int) ∧ Ch s 0 pos u ∧ pos ≤ o ∧ PlaceAt s pos l c ∧ l ≤ 60000 ∧ c ≤ 120000 ∧ wr.heap[w.heap.size]? = some (.cells #[.int .i64 0, .int .i64 0] 23 (0, 0)) ∧ wr.heap[w.heap.size + 1]? = some (.cells #[.int .i64 (l : Int), .int .i64 (c : Int)] 23 (0, 0)) ∧ Below w.heap.size w wr) (fun p _ => o - (intOf p).toNat)
  case atStart => exact ⟨0, 0, 0, 0, rfl, Ch.refl 0, by omega, PlaceAt.zero s, by omega, by omega, HK.out.1, HK.out.2, hB00⟩
  case round =>
    obtain ⟨pos, u, l, c, rfl, hc, hle, hpl, hlb, hcb, hk0, hk1, hB⟩ := hrel
    have p0 : wr.cell? ⟨w.heap.size + 1, 0, none⟩ = some (.int .i64 (l : Int)) := Lib.cell_of_heap hk1 0
    have p1 : wr.cell? ⟨w.heap.size + 1, 1, none⟩ = some (.int .i64 (c : Int)) := Lib.cell_of_heap hk1 1
    have g0 : wr.frozen? ⟨w.heap.size + 1, 0, none⟩ = false := by simp [World.frozen?, hk1]
    have g1 : wr.frozen? ⟨w.heap.size + 1, 1, none⟩ = false := by simp [World.frozen?, hk1]
    have r0 : wr.cell? ⟨w.heap.size, 0, none⟩ = some (.int .i64 0) := Lib.cell_of_heap hk0 0
    have r1 : wr.cell? ⟨w.heap.size, 1, none⟩ = some (.int .i64 0) := Lib.cell_of_heap hk0 1
    have f0 : wr.frozen? ⟨w.heap.size, 0, none⟩ = false := by simp [World.frozen?, hk0]
    have f1 : wr.frozen? ⟨w.heap.size, 1, none⟩ = false := by simp [World.frozen?, hk0]
    have HK0 := Lib.hid hk0
    have HK1 := Lib.hid hk1
    clear hk0 hk1
    by_cases hp : pos < o
    · have hps : pos < s.size := by omega
      obtain ⟨u2, hu2⟩ := HBD.out
      obtain ⟨u3, hu3, _⟩ := hc.split hu2 hle
      obtain ⟨_, u4, _, hnx⟩ := hu3.next hp
      have hnl := hnx.le
      have Hs := Lib.hid (hc.snoc hps)
      have hdn := dn_le s pos hps
      have hdp := dn_pos s pos
      have hdw := dw_le s pos
      clear hu2 hu3 hnx hc
      have hset : ∀ (v1 : Value), ((wr.setCell ⟨w.heap.size + 1, 1, none⟩ v1)).heap[w.heap.size + 1]? = some (.cells #[.int .i64 (l : Int), v1] 23 (0, 0)) ∧ ((wr.setCell ⟨w.heap.size + 1, 1, none⟩ v1)).heap[w.heap.size]? = some (.cells #[.int .i64 0, .int .i64 0] 23 (0, 0)) := by
        intro v1
        unfold World.setCell
        simp only [Array.getElem?_modify, HK1.out, HK0.out]
        simp
      have hset2 : ∀ (v1 v2 v3 : Value), (((wr.setCell ⟨w.heap.size + 1, 1, none⟩ v1).setCell ⟨w.heap.size + 1, 0, none⟩ v2).setCell ⟨w.heap.size + 1, 1, none⟩ v3).heap[w.heap.size + 1]? = some (.cells #[v2, v3] 23 (0, 0)) ∧ (((wr.setCell ⟨w.heap.size + 1, 1, none⟩ v1).setCell ⟨w.heap.size + 1, 0, none⟩ v2).setCell ⟨w.heap.size + 1, 1, none⟩ v3).heap[w.heap.size]? = some (.cells #[.int .i64 0, .int .i64 0] 23 (0, 0)) := by
        intro v1 v2 v3
        unfold World.setCell
        simp only [Array.getElem?_modify, HK1.out, HK0.out]
        simp
      have HS1 := Lib.hid hset
      have HS2 := Lib.hid hset2
      have hpb : pos < (byt s).length := by rw [byt_length]; exact hps
      clear hset hset2
      by_cases hq : bt s pos = 10
      · obtain ⟨hd1, hpl2⟩ := hpl.step_feed hps hq
        have hl1 : l + 1 ≤ 60000 := by
          have h1 := feedsL_take_le (byt s) (pos + dn s pos)
          have h2 := feedsL_le (byt s)
          rw [byt_length] at h2
          have := hpl2.1
          omega
        have hq2 : (((s[pos]'hps).toNat : Int) == 10) = true := by rw [← bt_eq s pos hps, hq]; rfl
        have HP2 := Lib.hid hpl2
        clear hpl hpl2 hq hd1
        go_wp2_with fail
        with_reducible refine (Char_any s pos _ hs hps).mono ?_
        rintro e w2 ⟨rfl, rfl⟩
        go_wp2_with fail
        obtain ⟨t1, t2⟩ := HS2.out (.int .i64 ((c : Int) + (dw s pos : Int))) (.int .i64 ((l : Int) + 1)) (.int .i64 0)
        exact ⟨⟨pos + dn s pos, _, l + 1, 0, by go_num, Hs.out, hnl, HP2.out, hl1, by omega, t2, t1, ((hB.setCell (p := ⟨w.heap.size + 1, 1, none⟩) (Nat.le_add_right _ _) _).setCell (p := ⟨w.heap.size + 1, 0, none⟩) (Nat.le_add_right _ _) _).setCell (p := ⟨w.heap.size + 1, 1, none⟩) (Nat.le_add_right _ _) _⟩, by simp [intOf]; omega⟩
      · have hpl2 := hpl.step_other hps hq
        have hc1 : c + dw s pos ≤ 120000 := by
          have := hpl2.2.width_le
          omega
        have hq2 : (((s[pos]'hps).toNat : Int) == 10) = false := by rw [← bt_eq s pos hps, beq_eq_false_iff_ne]; omega
        have HP2 := Lib.hid hpl2
        clear hpl hpl2 hq
        go_wp2_with fail
        with_reducible refine (Char_any s pos _ hs hps).mono ?_
        rintro e w2 ⟨rfl, rfl⟩
        go_wp2_with fail
        obtain ⟨t1, t2⟩ := HS1.out (.int .i64 ((c + dw s pos : Nat) : Int))
        exact ⟨⟨pos + dn s pos, _, l, c + dw s pos, by go_num, Hs.out, hnl, HP2.out, hlb, hc1, t2, t1, hB.setCell (p := ⟨w.heap.size + 1, 1, none⟩) (Nat.le_add_right _ _) _⟩, by simp [intOf]; omega⟩
    · obtain rfl : pos = o := by omega
      have HPL := Lib.hid hpl
      clear hpl hc
      go_wp2_with fail
      exact bodyPost_ret (v := .agg #[.int .i64 (l : Int), .int .i64 (c : Int)]) (by simp [results, Tryd.results16, go_sem, r0, r1]) rfl ⟨⟨l, c, HPL.out, rfl⟩, (hB.setCell (p := ⟨w.heap.size, 0, none⟩) (Nat.le_refl _) _).setCell (p := ⟨w.heap.size, 1, none⟩) (Nat.le_refl _) _⟩
end Go.Proofs.YtmbpjjehnfjdiaaDoor
