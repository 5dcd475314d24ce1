/-
  relex: the specification's Least.
-/
import Derived.Test.YtkdnacniligjjaaDoorRelexCommonsp30
import Derived.Test.YtkdnacniligjjaaDoorRelexTokensp1
import Derived.Test.YtkdnacniligjjaaDoorRelexTokensp4
namespace Go.Proofs.YtkdnacniligjjaaDoor
set_option linter.unusedVariables false
set_option linter.unusedSimpArgs false
open Go.RowKit

set_option maxRecDepth 100000 in
set_option maxHeartbeats 4000000 in
theorem Least_ok (c : Nat) (A : Option Addr) (s : ByteArray) (f t : Nat) (x : ByteArray) (w : World) (hs : s.size ≤ 20000) (hft : f ≤ t) (ht : t ≤ s.size) (hE : TksV w A (lexL s)) :
    Calls Tryd.prog 33 #[.slice A (lexL s).length c, .agg #[.int .i64 (f : Int), .int .i64 (t : Int), .string x]] w fun e w' => ∃ a b : Nat, e = .returned (.tuple #[.int .i64 (a : Int), .int .i64 (b : Int)]) ∧ a ≤ metF s (begL (lexL s)) f ∧ b + metT s (begL (lexL s)) t ≤ (lexL s).length ∧ Below w.heap.size w w' := by
  have hmt := (met_spec s hft ht).1
  have hl := lexL_max hs
  have hcat : (catL (lexL s)).length ≤ 60000 := by rw [catL_lex s.size s (Nat.le_refl _), byt_length]; omega
  have hrt := fun W (hW : TksV W A (lexL s)) => RText_any c A (lexL s) W (by omega) hcat hW
  rw [catL_lex s.size s (Nat.le_refl _), mkB_byt] at hrt
  have hfo : ∀ k B, okBef s f B → ((posB (lexL s) (k + 1) : Nat) : Int) ≤ B → k + 1 ≤ metF s (begL (lexL s)) f := fun k B h1 h2 => first_ok (by omega) h1 h2
  have hlo : ∀ k B, okAft s t B → 0 ≤ B → B < ((posB (lexL s) k : Nat) : Int) → metT s (begL (lexL s)) t ≤ k := fun k B h1 h2 h3 => last_ok ht h1 h2 h3
  have hpos : ∀ i, posB (lexL s) i ≤ s.size := posB_max s
  have hps : ∀ i (h : i < (lexL s).length), posB (lexL s) (i + 1) = posB (lexL s) i + (lexL s)[i].2.size := fun i h => posB_succ h
  have hp0 := posB_zero (lexL s)
  generalize metF s (begL (lexL s)) f = mF at *
  generalize metT s (begL (lexL s)) t = mT at *
  obtain ⟨L, hL⟩ : ∃ L, L = lexL s := ⟨_, rfl⟩
  rw [← hL] at hrt hfo hlo hpos hps hp0 hmt hl hE hcat ⊢
  obtain ⟨w0, hw0⟩ : ∃ w0, w0 = w.alloc (.cells #[.int .i64 (f : Int), .int .i64 (t : Int), .string x] 47) := ⟨_, rfl⟩
  have hB0 : Below w.heap.size w w0 := by rw [hw0]; exact (Below.refl _ _).alloc (Nat.le_refl _) _
  have h0 : w0.heap[w.heap.size]? = some (.cells #[.int .i64 (f : Int), .int .i64 (t : Int), .string x] 47 (0, 0)) := by rw [hw0]; exact heap_alloc_new w _
  have hlt0 : w.heap.size < w0.heap.size := by rw [hw0]; simp
  have hcells : ∀ W, Below w0.heap.size w0 W → W.cell? ⟨w.heap.size, 0, none⟩ = some (.int .i64 (f : Int)) ∧ W.cell? ⟨w.heap.size, 1, none⟩ = some (.int .i64 (t : Int)) := fun W hW => ⟨Lib.cell_of_heap ((hW.block _ hlt0).trans h0) 0, Lib.cell_of_heap ((hW.block _ hlt0).trans h0) 1⟩
  have HC := Lib.hid hcells
  have HW0 := Lib.hid hw0
  have Hrt := Lib.hid hrt
  have HE := Lib.hid (hE.below hB0)
  have HB0 := Lib.hid hB0
  have HFO := Lib.hid hfo
  have HLO := Lib.hid hlo
  have HPOS := Lib.hid hpos
  have HPS := Lib.hid hps
  have HP0 := Lib.hid hp0
  have HMT := Lib.hid hmt
  have HLL := Lib.hid hl
  have HOB : Hid (okBef s f (-1)) := Lib.hid (.inl rfl)
  have HOA : Hid (okAft s t (-1)) := Lib.hid (.inl rfl)
  clear hcells hw0 hrt hE hB0 hfo hlo hpos hps hp0 hmt hl h0 hcat hL
  go_enter Tryd.func33, Tryd.ntmps33
  go_wp2_with fail
  rw [← HW0.out]
  refine (Hrt.out w0 HE.out).mono ?_
  rintro e w1 ⟨rfl, hb1⟩
  have HB1 := Lib.hid hb1
  have HE1 := Lib.hid (HE.out.below hb1)
  clear hb1
  go_wp2_with fail
  go_loopw [7, 9] (fun bf i wr => ∃ (k : Nat) (B : Int), k ≤ f ∧ i = .int .i64 k ∧ bf = .int .i64 B ∧ okBef s f B ∧ Below w1.heap.size w1 wr) (fun _ i _ => f - (intOf i).toNat)
  case atStart => exact ⟨0, -1, Nat.zero_le _, rfl, rfl, HOB.out, Below.refl _ _⟩
  case round =>
    obtain ⟨k, B, hk, rfl, rfl, hok, hB⟩ := hrel
    obtain ⟨d0, d1⟩ := HC.out _ (HB1.out.trans (hB.mono HB1.out.size))
    have hk0 : (0 : Int) ≤ (k : Int) := by omega
    have HOK := Lib.hid hok
    by_cases hlt : k < f
    · have hk1 : (k : Int) < (f : Int) := by omega
      have hks : k < s.size := by omega
      rcases byte10 hks with ⟨q2, h10⟩ | q2
      · have HN : Hid (okBef s f (k : Int)) := Lib.hid (.inr ⟨k, rfl, hlt, h10⟩)
        clear hok h10
        go_wp2_with fail
        refine ⟨⟨k + 1, _, by omega, by go_num, rfl, HN.out, hB⟩, by simp [intOf]; omega⟩
      · clear hok
        go_wp2_with fail
        refine ⟨⟨k + 1, _, by omega, by go_num, rfl, HOK.out, hB⟩, by simp [intOf]; omega⟩
    · have hk1 : ¬ (k : Int) < (f : Int) := by omega
      clear hok
      have hss : s.size ≤ 20000 := hs
      go_wp2_with fail
      go_loopw [8, 10] (fun af i wr => ∃ (j : Nat) (C : Int), t ≤ j ∧ j ≤ s.size ∧ i = .int .i64 ((j : Int) - 1) ∧ af = .int .i64 C ∧ okAft s t C ∧ Below w1.heap.size w1 wr) (fun _ i _ => (intOf i + 1).toNat)
      case atStart => exact ⟨s.size, -1, ht, Nat.le_refl _, by go_num, rfl, HOA.out, hB⟩
      case round =>
        obtain ⟨j, C, hj, hj2, rfl, rfl, hok, hB⟩ := hrel
        obtain ⟨d0, d1⟩ := HC.out _ (HB1.out.trans (hB.mono HB1.out.size))
        have HOK2 := Lib.hid hok
        by_cases hlt : t < j
        · obtain ⟨j, rfl⟩ : ∃ k, j = k + 1 := ⟨j - 1, by omega⟩
          have hij : ((j + 1 : Nat) : Int) - 1 = (j : Int) := by omega
          have hjs : j < s.size := by omega
          have hjt : (t : Int) ≤ (j : Int) := by omega
          have hj0 : (0 : Int) ≤ (j : Int) := by omega
          rw [hij]
          rcases byte10 hjs with ⟨q2, h10⟩ | q2
          · have HN : Hid (okAft s t (j : Int)) := Lib.hid (.inr ⟨j, rfl, by omega, h10⟩)
            clear hok h10
            go_wp2_with fail
            refine ⟨⟨j, _, by omega, by omega, by go_num, rfl, HN.out, hB⟩, by simp [intOf]; try omega⟩
          · clear hok
            go_wp2_with fail
            refine ⟨⟨j, _, by omega, by omega, by go_num, rfl, HOK2.out, hB⟩, by simp [intOf]; try omega⟩
        · have hjt : j = t := by omega
          subst hjt
          have hjt2 : ¬ (j : Int) ≤ (j : Int) - 1 := by omega
          clear hok
          go_wp2_with fail
          go_loopw [11, 12, 13, 14] (fun fv lv av i wr => ∃ (k F T : Nat), k ≤ L.length ∧ i = .int .i64 k ∧ fv = .int .i64 F ∧ lv = .int .i64 T ∧ av = .int .i64 (posB L k : Nat) ∧ F ≤ k ∧ F ≤ mF ∧ T + min k mT ≤ k ∧ Below w1.heap.size w1 wr) (fun _ _ _ i _ => L.length - (intOf i).toNat)
          case atStart => exact ⟨0, 0, 0, Nat.zero_le _, rfl, rfl, rfl, by rw [HP0.out]; rfl, Nat.le_refl _, Nat.zero_le _, by omega, hB⟩
          case round =>
            obtain ⟨k, F, T, hk, rfl, rfl, rfl, rfl, hF1, hF2, hT1, hB⟩ := hrel
            have hll := HLL.out.1
            by_cases hlt : k < L.length
            · obtain ⟨b, off, rfl, hbb, m0, m1⟩ := (HE1.out.below hB).get hlt
              have hst := HPS.out k hlt
              have hp1 := HPOS.out (k + 1)
              have hp2 := HPOS.out k
              have hfk := fun h => HFO.out k B HOK.out h
              have hlk := fun h0 h => HLO.out k C HOK2.out h0 h
              obtain ⟨⟨kd, y⟩, hy⟩ : ∃ p, p = L[k] := ⟨_, rfl⟩
              rw [← hy] at m0 m1 hst
              simp only at m0 m1 hst
              obtain ⟨p', hp'⟩ : ∃ p', p' = posB L (k + 1) := ⟨_, rfl⟩
              rw [← hp'] at hfk hst hp1
              have HP' := Lib.hid hp'
              generalize posB L k = pk at *
              have HSP := Lib.hid (show (pk : Int) + (y.size : Int) = (p' : Int) by omega)
              have hbd : pk + y.size ≤ 20000 := by omega
              clear hy hp' d0 d1
              by_cases hc0 : 0 ≤ C
              · have qc0 : decide ((0 : Int) ≤ C) = true := by simpa using hc0
                by_cases hc1 : C < (pk : Int)
                · have qc1 : decide (C < (pk : Int)) = true := by simpa using hc1
                  have hmk := hlk hc0 hc1
                  by_cases hf : (pk : Int) + (y.size : Int) ≤ B
                  · have hfk' := hfk (by omega)
                    clear hfk hlk
                    go_wp2_with fail
                    refine ⟨⟨k + 1, F + 1, T + 1, by omega, by go_num, by go_num, by go_num, by rw [← HP'.out, ← HSP.out]; try go_num, by omega, by omega, by omega, hB⟩, by simp [intOf]; omega⟩
                  · clear hfk hlk
                    go_wp2_with fail
                    refine ⟨⟨k + 1, F, T + 1, by omega, by go_num, by go_num, by go_num, by rw [← HP'.out, ← HSP.out]; try go_num, by omega, by omega, by omega, hB⟩, by simp [intOf]; omega⟩
                · have qc1 : decide (C < (pk : Int)) = false := by simpa using hc1
                  by_cases hf : (pk : Int) + (y.size : Int) ≤ B
                  · have hfk' := hfk (by omega)
                    clear hfk hlk
                    go_wp2_with fail
                    refine ⟨⟨k + 1, F + 1, T, by omega, by go_num, by go_num, by go_num, by rw [← HP'.out, ← HSP.out]; try go_num, by omega, by omega, by omega, hB⟩, by simp [intOf]; omega⟩
                  · clear hfk hlk
                    go_wp2_with fail
                    refine ⟨⟨k + 1, F, T, by omega, by go_num, by go_num, by go_num, by rw [← HP'.out, ← HSP.out]; try go_num, by omega, by omega, by omega, hB⟩, by simp [intOf]; omega⟩
              · have qc0 : decide ((0 : Int) ≤ C) = false := by simpa using hc0
                by_cases hf : (pk : Int) + (y.size : Int) ≤ B
                · have hfk' := hfk (by omega)
                  clear hfk hlk
                  go_wp2_with fail
                  refine ⟨⟨k + 1, F + 1, T, by omega, by go_num, by go_num, by go_num, by rw [← HP'.out, ← HSP.out]; try go_num, by omega, by omega, by omega, hB⟩, by simp [intOf]; omega⟩
                · clear hfk hlk
                  go_wp2_with fail
                  refine ⟨⟨k + 1, F, T, by omega, by go_num, by go_num, by go_num, by rw [← HP'.out, ← HSP.out]; try go_num, by omega, by omega, by omega, hB⟩, by simp [intOf]; omega⟩
            · have hke : k = L.length := by omega
              subst hke
              have hmt := HMT.out
              have m1 : max (0 : Int) ((F : Int) - 1) = ((F - 1 : Nat) : Int) := by omega
              have m2 : max (0 : Int) ((T : Int) - 1) = ((T - 1 : Nat) : Int) := by omega
              clear d0 d1
              go_wp2_with fail
              go_ret2
              refine ⟨F - 1, T - 1, ?_, by omega, by omega, HB0.out.trans ((HB1.out.trans (hB.mono HB1.out.size)).mono HB0.out.size)⟩
              first | rfl | rw [m1, m2]
end Go.Proofs.YtkdnacniligjjaaDoor
