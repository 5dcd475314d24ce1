/-
  The contract of Merge, of edits that are right.
-/
import Derived.Test.YtkdnacniligjjaaDoorRelexThenp7
import Derived.Test.YtkdnacniligjjaaDoorRelexThenp8
import Derived.Test.YtkdnacniligjjaaDoorRelexCommonsp21
import Derived.Test.YtkdnacniligjjaaDoorRelexCommonsp28
namespace Go.Proofs.YtkdnacniligjjaaDoor
set_option linter.unusedVariables false
set_option linter.unusedSimpArgs false
open Go.RowKit

/-- what Merge gives: edits that make the same string; or there are too many -/
def MergeEnd (t : ByteArray) (F G M : List Ed) (er : Int) : Prop :=
  (er = 0 ∧ Small M ∧ checkE t.size M = 0 ∧ applyB t M = applyB (applyB t F) G) ∨ (er = 7 ∧ M = [] ∧ 100 < F.length + G.length)
theorem MergeEnd.fits {t : ByteArray} {F G M : List Ed} {er : Int} (h : MergeEnd t F G M er) (hl : F.length + G.length ≤ 100) : er = 0 ∧ Small M ∧ checkE t.size M = 0 ∧ applyB t M = applyB (applyB t F) G := by
  rcases h with h | ⟨_, _, h⟩
  · exact h
  · omega
theorem small_nil : Small [] := ⟨Nat.zero_le _, fun _ h => by cases h⟩

set_option maxRecDepth 100000 in
set_option maxHeartbeats 1000000 in
theorem Merge_ok (t : ByteArray) (F G : List Ed) (cf cg : Nat) (A AG : Option Addr) (w : World) (hF : Small F) (hG : Small G) (ht : t.size ≤ 60000) (h0 : checkE t.size F = 0) (h1 : checkE (applyB t F).size G = 0) (hcg : G.length ≤ cg)
    (hE : EdsV w A F) (hE2 : EdsV w AG G) :
    Calls Tryd.prog 41 #[.string t, .slice A F.length cf, .slice AG G.length cg] w fun e w' => ∃ M er, OwnsEds w M er e w' ∧ MergeEnd t F G M er := by
  have hSm0 := SmAt.first h0 h1
  have hlast := fun (ms : List Ed) (sh : Int) => SmAt.last (ms := ms) (sh := sh) h0 h1
  obtain ⟨c1, c2, c3, c4⟩ := checkE_ok h0
  obtain ⟨d1, d2, d3, d4⟩ := checkE_ok h1
  have H0 := Lib.hid h0
  have H1 := Lib.hid (applyR_ok h0)
  have H2 := Lib.hid h1
  have hX : (applyB t F).size ≤ 60000 := by omega
  generalize hX0 : applyB t F = X at hSm0 hlast hX H1 H2 d1 d3 d4
  generalize editedL X X.size 0 G = out at hSm0 hlast
  have HS0 := Lib.hid hSm0
  have HX0 := Lib.hid hX0
  have HL := Lib.hid hlast
  have Hr := Lib.hid c3
  have hrF : Hid (rising 60000 0 F = true) := Lib.hid (rising_more (by omega) c3)
  have hrG : Hid (rising 60000 0 G = true) := Lib.hid (rising_more (by omega) d3)
  clear h0 h1 hX0 hSm0 hlast c1 c3 c4 d1 d3 d4
  go_enter Tryd.func41, Tryd.ntmps41
  go_wp2_with fail
  with_reducible refine (Apply_any t cf A F w hF ht hE).mono ?_
  rw [H0.out, H1.out]
  rintro e w1 ⟨rfl, hb1⟩
  go_wp2_with fail
  with_reducible refine (Check_any X cg AG G w1 hG hX (hE2.below hb1)).mono ?_
  rw [H2.out]
  rintro e w2 ⟨rfl, hb2⟩
  have hB2 := hb1.trans (hb2.mono hb1.size)
  go_wp2_with fail
  with_reducible refine (placed_own t.size cf A F w2 hF (by omega) Hr.out (hE.below hB2)).mono ?_
  rintro e w3 ⟨g, rfl, hown3, hb3⟩
  have hB3 := hB2.trans (hb3.mono hB2.size)
  go_wp2_with fail
  have hI : MgIn w3 w3.heap.size F G A AG g w2.heap.size := ⟨Nat.le_refl _, hE.below hB3, hE2.below hB3, hown3, hF, hG, hrF.out, hrG.out⟩
  have hW0 : MgW w3 (w3.alloc (.cells (mgCells X (.slice A F.length cf) (.slice AG G.length cg) (.slice (some ⟨g, 0, none⟩) F.length F.length) 0 0 0 (.slice none 0 0)) 98)) w3.heap.size (w3.heap.size + 1) X F G A AG cf cg g 0 0 0 [] (.slice none 0 0) :=
    ⟨(Below.refl _ _).alloc (Nat.le_refl _) _, heap_alloc_new w3 _, World.ownsRow_nil _ _ _ _, by simp⟩
  have hBa := hB3.alloc hB3.size (.cells (mgCells X (.slice A F.length cf) (.slice AG G.length cg) (.slice (some ⟨g, 0, none⟩) F.length F.length) 0 0 0 (.slice none 0 0)) 98)
  have HI := Lib.hid hI
  have HW0 := Lib.hid hW0
  have hB3s := hB3.size
  clear hI hW0 hE hE2 hown3
  go_loopw [] (fun wr => ∃ (k j : Nat) (sh : Int) (ms : List Ed) (vm : Value), SmAt t X out F G k j sh ms ∧ MgW w3 wr w3.heap.size (w3.heap.size + 1) X F G A AG cf cg g k j sh ms vm ∧ Below w.heap.size w wr) (fun wr => F.length + G.length - cellN wr w3.heap.size 4 - cellN wr w3.heap.size 5)
  case atStart => exact ⟨0, 0, 0, [], _, HS0.out, HW0.out, hBa⟩
  case round =>
    obtain ⟨k, j, sh, ms, vm, hS, hW, hB⟩ := hrel
    have m4 : wr.cell? ⟨w3.heap.size, 4, none⟩ = some (.int .i64 (k : Int)) := Lib.cell_of_heap hW.hb 4
    have m5 : wr.cell? ⟨w3.heap.size, 5, none⟩ = some (.int .i64 (j : Int)) := Lib.cell_of_heap hW.hb 5
    have m7 : wr.cell? ⟨w3.heap.size, 7, none⟩ = some vm := Lib.cell_of_heap hW.hb 7
    have hN := cellN_4 hW.hb
    have hk1 := hS.hk
    have hj1 := hS.hj
    have hml := hS.hm
    have HS := Lib.hid hS
    have HW := Lib.hid hW
    have HB := Lib.hid hB
    clear hS hW hB
    by_cases hk : k < F.length
    · have q1 : decide ((k : Int) < (F.length : Int)) = true := by simp; omega
      go_wp2_with fail
      with_reducible refine (next_any t X out F G A AG cf cg g _ _ _ vm ms w3 wr k j sh HI.out ht hX hcg (Nat.lt_succ_self _) HS.out HW.out (.inl hk)).mono ?_
      rintro en w5 ⟨rfl, k', j', sh', ms', vm', g1, g2, g3, g4, g5⟩
      go_wp2_with fail
      have hN5 := cellN_4 g3.hb
      have a1 := g2.hk
      have a2 := g2.hj
      exact ⟨⟨k', j', sh', ms', vm', g2, g3, HB.out.trans (g4.mono hB3s)⟩, mg_less hN hN5 (by omega)⟩
    · by_cases hj : j < G.length
      · have q1 : decide ((k : Int) < (F.length : Int)) = false := by simp; omega
        have q2 : decide ((j : Int) < (G.length : Int)) = true := by simp; omega
        go_wp2_with fail
        with_reducible refine (next_any t X out F G A AG cf cg g _ _ _ vm ms w3 wr k j sh HI.out ht hX hcg (Nat.lt_succ_self _) HS.out HW.out (.inr hj)).mono ?_
        rintro en w5 ⟨rfl, k', j', sh', ms', vm', g1, g2, g3, g4, g5⟩
        go_wp2_with fail
        have hN5 := cellN_4 g3.hb
        have a1 := g2.hk
        have a2 := g2.hj
        exact ⟨⟨k', j', sh', ms', vm', g2, g3, HB.out.trans (g4.mono hB3s)⟩, mg_less hN hN5 (by omega)⟩
      · have hS2 : SmAt t X out F G F.length G.length sh ms := by
          have h := HS.out
          rw [show k = F.length by omega, show j = G.length by omega] at h
          exact h
        obtain ⟨r1, r2, r3, r4, r5⟩ := HL.out ms sh hS2
        obtain ⟨ao, cap, rfl, _⟩ := own_shape HW.out.own
        have R1 := Lib.hid (And.intro r1 (And.intro r3 (And.intro r4 r5)))
        have q1 : decide ((k : Int) < (F.length : Int)) = false := by simp; omega
        have q2 : decide ((j : Int) < (G.length : Int)) = false := by simp; omega
        clear r1 r3 r4 r5 hS2
        by_cases hm : 100 < ms.length
        · have q3 : decide ((100 : Int) < (ms.length : Int)) = true := by simp; omega
          go_wp2_with fail
          go_ret2
          exact ⟨[], 7, ⟨_, rfl, World.ownsRow_nil _ _ _ _, HB.out⟩, .inr ⟨rfl, rfl, by omega⟩⟩
        · have q3 : decide ((100 : Int) < (ms.length : Int)) = false := by simp; omega
          go_wp2_with fail
          go_ret2
          exact ⟨ms, 0, ⟨_, rfl, ownsRow_less HW.out.own (by omega), HB.out⟩, .inl ⟨rfl, R1.out.1, R1.out.2.2.2 (by omega), by rw [HX0.out]; exact R1.out.2.1⟩⟩
end Go.Proofs.YtkdnacniligjjaaDoor
