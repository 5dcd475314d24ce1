/-
  The merger in memory: takeTouching.
-/
import Derived.Test.YtkdnacniligjjaaDoorRelexThenp2
import Derived.Test.YtkdnacniligjjaaDoorRelexThenp3
import Derived.Test.YtkdnacniligjjaaDoorRelexCommonsp28
namespace Go.Proofs.YtkdnacniligjjaaDoor
set_option linter.unusedVariables false
set_option linter.unusedSimpArgs false
open Go.RowKit

/-- what the merger goes through stands in older memory -/
structure MgIn (w0 : World) (b : Nat) (F G : List Ed) (A AG : Option Addr) (g base : Nat) : Prop where
  hb : w0.heap.size ≤ b
  eF : EdsV w0 A F
  eG : EdsV w0 AG G
  sp : w0.ownsRow base 84 2 (.slice (some ⟨g, 0, none⟩) F.length F.length) F.length (spCells (placedL 0 F))
  sF : Small F
  sG : Small G
  rF : rising 60000 0 F = true
  rG : rising 60000 0 G = true

theorem Only.refl {b : Nat} {w : World} : Only b w w := ⟨Below.refl _ _, Nat.le_refl _, fun _ _ _ => rfl⟩
theorem Only.trans {b : Nat} {w w1 w2 : World} (h : Only b w w1) (h2 : Only b w1 w2) : Only b w w2 :=
  ⟨h.1.trans h2.1, Nat.le_trans h.2.1 h2.2.1, fun c hc hne => (h2.2.2 c (Nat.lt_of_lt_of_le hc h.2.1) hne).trans (h.2.2 c hc hne)⟩
theorem Only.below {b : Nat} {w w1 : World} (hbl : b < w.heap.size) (h : Below w.heap.size w w1) : Only b w w1 :=
  ⟨h.mono (Nat.le_of_lt hbl), h.size, fun c hc _ => h.block c hc⟩
theorem Only.old {b : Nat} {w0 w w1 : World} (hb : w0.heap.size ≤ b) (h0 : Below w0.heap.size w0 w) (h : Only b w w1) : Below w0.heap.size w0 w1 := h0.trans (h.1.mono hb)
theorem Only.set1 {b : Nat} {w wA : World} (h : Only b w wA) (i : Nat) (u : Value) : Only b w (wA.setCell ⟨b, i, none⟩ u) := by
  refine ⟨h.1.setCell (p := ⟨b, i, none⟩) (Nat.le_refl _) u, ?_, fun c hc hne => ?_⟩
  · have := h.1.setCell (p := ⟨b, i, none⟩) (Nat.le_refl _) u
    exact Nat.le_trans h.2.1 (by simp [World.setCell])
  · rw [Below.heap_setCell _ _ _ _ hne]; exact h.2.2 c hc hne
theorem mg_set5 {wA : World} {b : Nat} {X : ByteArray} {vf vs vp vm : Value} {k j j' : Nat} {sh : Int} (h : wA.heap[b]? = some (.cells (mgCells X vf vs vp k j sh vm) 98 (0, 0))) :
    (wA.setCell ⟨b, 5, none⟩ (.int .i64 (j' : Int))).heap[b]? = some (.cells (mgCells X vf vs vp k j' sh vm) 98 (0, 0)) := by
  unfold World.setCell
  simp only [Array.getElem?_modify, h]
  simp [mgCells]

def cellN (w : World) (b i : Nat) : Nat := match w.cell? ⟨b, i, none⟩ with
  | some v => (intOf v).toNat
  | none => 0
theorem cellN_4 {w : World} {b : Nat} {X : ByteArray} {vf vs vp vm : Value} {k j : Nat} {sh : Int} (h : w.heap[b]? = some (.cells (mgCells X vf vs vp k j sh vm) 98 (0, 0))) : cellN w b 4 = k ∧ cellN w b 5 = j := by
  have h4 : w.cell? ⟨b, 4, none⟩ = some (.int .i64 k) := Lib.cell_of_heap h 4
  have h5 : w.cell? ⟨b, 5, none⟩ = some (.int .i64 j) := Lib.cell_of_heap h 5
  unfold cellN
  rw [h4, h5]
  exact ⟨by simp [intOf], by simp [intOf]⟩
theorem mg_less {n : Nat} {w w' : World} {b k j k2 j2 : Nat} (h : cellN w b 4 = k ∧ cellN w b 5 = j) (h' : cellN w' b 4 = k2 ∧ cellN w' b 5 = j2) (hn : n - k2 - j2 < n - k - j) : n - cellN w' b 4 - cellN w' b 5 < n - cellN w b 4 - cellN w b 5 := by
  rw [h.1, h.2, h'.1, h'.2]; exact hn
theorem Only.drewN {b : Nat} {w w1 : World} (h : Only b w w1) (n : Nat) : Only b w (w1.drewN n) := ⟨below_drewN h.1 n, h.2.1, h.2.2⟩
theorem tk_kept {w w' : World} {b g bG o1 o2 q1 q2 q3 : Nat} {v1 v2 v3 v4 v5 p1 p2 x1 x2 x3 : Value} (hb : Below w.heap.size w w') (l1 : b < w.heap.size) (l2 : g < w.heap.size) (l3 : bG < w.heap.size)
    (c1 : w.cell? ⟨b, 1, none⟩ = some v1) (c2 : w.cell? ⟨b, 2, none⟩ = some v2) (c3 : w.cell? ⟨b, 3, none⟩ = some v3) (c4 : w.cell? ⟨b, 4, none⟩ = some v4) (c5 : w.cell? ⟨b, 5, none⟩ = some v5)
    (d1 : w.cell? ⟨g, o1, none⟩ = some p1) (d2 : w.cell? ⟨g, o2, none⟩ = some p2) (e1 : w.cell? ⟨bG, q1, none⟩ = some x1) (e2 : w.cell? ⟨bG, q2, none⟩ = some x2) (e3 : w.cell? ⟨bG, q3, none⟩ = some x3) :
    Below w.heap.size w w' ∧ w'.cell? ⟨b, 1, none⟩ = some v1 ∧ w'.cell? ⟨b, 2, none⟩ = some v2 ∧ w'.cell? ⟨b, 3, none⟩ = some v3 ∧ w'.cell? ⟨b, 4, none⟩ = some v4 ∧ w'.cell? ⟨b, 5, none⟩ = some v5 ∧
      w'.cell? ⟨g, o1, none⟩ = some p1 ∧ w'.cell? ⟨g, o2, none⟩ = some p2 ∧ w'.cell? ⟨bG, q1, none⟩ = some x1 ∧ w'.cell? ⟨bG, q2, none⟩ = some x2 ∧ w'.cell? ⟨bG, q3, none⟩ = some x3 :=
  ⟨hb, ((bcell hb).1 _ _ l1).trans c1, ((bcell hb).1 _ _ l1).trans c2, ((bcell hb).1 _ _ l1).trans c3, ((bcell hb).1 _ _ l1).trans c4, ((bcell hb).1 _ _ l1).trans c5,
    ((bcell hb).1 _ _ l2).trans d1, ((bcell hb).1 _ _ l2).trans d2, ((bcell hb).1 _ _ l3).trans e1, ((bcell hb).1 _ _ l3).trans e2, ((bcell hb).1 _ _ l3).trans e3⟩
theorem below_callM {B : Nat} {a Y w1 : World} (h : Below B a Y) (hB : B ≤ a.heap.size) (hb : Below Y.heap.size Y w1) : Below B a w1 := h.trans (hb.mono (Nat.le_trans hB h.size))
theorem touch_is (p1 p2 f t : Int) (s : ByteArray) (w : World) (q : Bool) (h : decide (f ≤ p2 ∧ p1 ≤ t) = q) :
    Calls Tryd.prog 127 #[.agg #[.int .i64 p1, .int .i64 p2], .agg #[.int .i64 f, .int .i64 t, .string s]] w fun e w' => e = .returned (.bool q) ∧ Below w.heap.size w w' := by
  rw [← h]; exact touch_any p1 p2 f t s w

/- THE WALK -/
set_option maxRecDepth 100000 in
set_option maxHeartbeats 4000000 in
theorem takeTouching_any (T X : ByteArray) (F G gs0 : List Ed) (A0 fr s0 : Nat) (A AG : Option Addr) (cf cg g base b : Nat) (vm : Value) (w0 w : World) (k j l1 l2 : Nat) (lg : Ed) (y u : Nat) (sh : Int)
    (hI : MgIn w0 b F G A AG g base) (hT : T.size ≤ 60000) (hX : X.size ≤ 60000) (hTk : TkAt T X F G gs0 A0 fr s0 k j l1 l2 lg y u sh) (hB0 : Below w0.heap.size w0 w)
    (hb : w.heap[b]? = some (.cells (mgCells X (.slice A F.length cf) (.slice AG G.length cg) (.slice (some ⟨g, 0, none⟩) F.length F.length) k j sh vm) 98 (0, 0))) :
    Calls Tryd.prog 117 #[.pointer (some ⟨b, 0, none⟩)] w fun e w' => e = .returned (.tuple #[]) ∧ ∃ (k' j' l1' l2' : Nat) (lg' : Ed) (y' u' : Nat) (sh' : Int), k ≤ k' ∧ TkAt T X F G gs0 A0 fr s0 k' j' l1' l2' lg' y' u' sh' ∧ TkEnd F G k' j' l1' l2' lg' sh' ∧
      w'.heap[b]? = some (.cells (mgCells X (.slice A F.length cf) (.slice AG G.length cg) (.slice (some ⟨g, 0, none⟩) F.length F.length) k' j' sh' vm) 98 (0, 0)) ∧ Only b w w' := by
  have hbl : b < w.heap.size := by
    rcases Nat.lt_or_ge b w.heap.size with h | h
    · exact h
    · rw [Array.getElem?_eq_none h] at hb; cases hb
  have HB := Lib.hid hb
  have HTk := Lib.hid hTk
  have hgl : g < w0.heap.size := (hI.sp.lt g rfl).2
  have hFl := hI.sF.1
  have hGl := hI.sG.1
  have HI := Lib.hid hI
  clear hb hTk hI
  go_enter Tryd.func117, Tryd.ntmps117
  go_wp2_with fail
  go_loopw [] (fun wr => ∃ (k' j' l1' l2' : Nat) (lg' : Ed) (y' u' : Nat) (sh' : Int), k ≤ k' ∧ TkAt T X F G gs0 A0 fr s0 k' j' l1' l2' lg' y' u' sh' ∧ wr.heap[b]? = some (.cells (mgCells X (.slice A F.length cf) (.slice AG G.length cg) (.slice (some ⟨g, 0, none⟩) F.length F.length) k' j' sh' vm) 98 (0, 0)) ∧ Only b w wr) (fun wr => F.length + G.length - cellN wr b 4 - cellN wr b 5)
  case atStart => exact ⟨k, j, l1, l2, lg, y, u, sh, Nat.le_refl _, HTk.out, HB.out, Only.refl⟩
  case round =>
    obtain ⟨k', j', l1', l2', lg', y', u', sh', hkk, hT', hb', hO⟩ := hrel
    have hBr := Only.old HI.out.hb hB0 hO
    have hlb : b < wr.heap.size := Nat.lt_of_lt_of_le hbl hO.2.1
    have hlg : g < wr.heap.size := Nat.lt_of_lt_of_le hgl hBr.size
    have m1 : wr.cell? ⟨b, 1, none⟩ = some (.slice A F.length cf) := Lib.cell_of_heap hb' 1
    have m2 : wr.cell? ⟨b, 2, none⟩ = some (.slice AG G.length cg) := Lib.cell_of_heap hb' 2
    have m3 : wr.cell? ⟨b, 3, none⟩ = some (.slice (some ⟨g, 0, none⟩) F.length F.length) := Lib.cell_of_heap hb' 3
    have m4 : wr.cell? ⟨b, 4, none⟩ = some (.int .i64 (k' : Int)) := Lib.cell_of_heap hb' 4
    have m5 : wr.cell? ⟨b, 5, none⟩ = some (.int .i64 (j' : Int)) := Lib.cell_of_heap hb' 5
    have f5 : wr.frozen? ⟨b, 5, none⟩ = false := by simp [World.frozen?, hb']
    have HT := Lib.hid hT'
    have HB' := Lib.hid hb'
    have HO := Lib.hid hO
    obtain ⟨hN4, hN5⟩ := cellN_4 hb'
    have hk0 := hT'.hk0
    have hk1 := hT'.hk
    have hj0 := hT'.hj0
    have hj1 := hT'.hj
    have hshb : -60000 ≤ sh' ∧ sh' ≤ 60000 := by
      have a1 := hT'.mid.hl
      have a2 := hT'.mid.hy
      have a3 := hT'.mid.hlX
      omega
    obtain ⟨hjl, hjg⟩ := List.getElem?_eq_some_iff.1 hT'.hg
    obtain ⟨bG, oG, rfl, hbG, z1, z2, z3⟩ := HI.out.eG.get hjl
    rw [hjg] at z1 z2 z3
    have hlG : bG < wr.heap.size := Nat.lt_of_lt_of_le hbG hBr.size
    have x1 : wr.cell? ⟨bG, oG + (j' - 1) * 3, none⟩ = some (.int .i64 lg'.f) := (hBr.cell hbG).trans z1
    have x2 : wr.cell? ⟨bG, oG + (j' - 1) * 3 + 1, none⟩ = some (.int .i64 lg'.t) := (hBr.cell hbG).trans z2
    have x3 : wr.cell? ⟨bG, oG + (j' - 1) * 3 + 2, none⟩ = some (.string lg'.s) := (hBr.cell hbG).trans z3
    have sj : IntKind.i64.wrap ((j' : Int) - 1) = ((j' - 1 : Nat) : Int) := by rw [IntWalk.i64_in _ (by omega)]; omega
    have sk : IntKind.i64.wrap ((k' : Int) - 1) = ((k' - 1 : Nat) : Int) := by rw [IntWalk.i64_in _ (by omega)]; omega
    have sj1 : IntKind.i64.wrap ((j' : Int) + 1) = ((j' + 1 : Nat) : Int) := by rw [IntWalk.i64_in _ (by omega)]; omega
    have hjl' : ((j' - 1 : Nat) : Int) < (G.length : Int) := by omega
    have hkpl : k' - 1 < (placedL 0 F).length := by rw [placedL_length]; omega
    obtain ⟨a1, a2⟩ := sp_get HI.out.sp hkpl
    have hpk1 : (placedL 0 F)[k' - 1] = ((l1' : Int), (l2' : Int)) := by have h := hT'.hl; rw [List.getElem?_eq_getElem hkpl] at h; injection h
    rw [hpk1] at a1 a2
    have r1 : wr.cell? ⟨g, (k' - 1) * 2, none⟩ = some (.int .i64 (l1' : Int)) := (hBr.cell hgl).trans a1
    have r2 : wr.cell? ⟨g, (k' - 1) * 2 + 1, none⟩ = some (.int .i64 (l2' : Int)) := (hBr.cell hgl).trans a2
    have hkl' : ((k' - 1 : Nat) : Int) < (F.length : Int) := by omega
    clear a1 a2 z1 z2 z3 hT' hb' hO hpk1
    by_cases hk2 : k' < F.length
    · have hkp : k' < (placedL 0 F).length := by rw [placedL_length]; exact hk2
      obtain ⟨c1, c2⟩ := sp_get HI.out.sp hkp
      have hpl := placedL_get 0 F k' hk2 hkp
      generalize (placedL 0 F)[k'] = pk at c1 c2 hpl
      have d1 : wr.cell? ⟨g, k' * 2, none⟩ = some (.int .i64 pk.1) := (hBr.cell hgl).trans c1
      have d2 : wr.cell? ⟨g, k' * 2 + 1, none⟩ = some (.int .i64 pk.2) := (hBr.cell hgl).trans c2
      have e1 : pk.1 = F[k'].f + sh' := by rw [hpl, HT.out.hsh]; simp
      have e2 : pk.2 = F[k'].f + sh' + F[k'].s.size := by rw [hpl, HT.out.hsh]; simp
      have hk2' : (k' : Int) < (F.length : Int) := by omega
      clear c1 c2 hpl
      by_cases ht : lg'.f ≤ pk.2 ∧ pk.1 ≤ lg'.t
      · have hbAq : decide (lg'.f ≤ pk.2 ∧ pk.1 ≤ lg'.t) = true := decide_eq_true ht
        obtain ⟨la, lb, yn, hTn⟩ := HT.out.takeF hk2 (by omega)
        have HTn := Lib.hid hTn
        clear hTn ht e1 e2
        go_wp2_with fail
        -- REGION A
        go_region_held3 (fun w' => Below wr.heap.size wr w' ∧ w'.cell? ⟨b, 1, none⟩ = some (.slice A F.length cf) ∧ w'.cell? ⟨b, 2, none⟩ = some (.slice (some ⟨bG, oG, none⟩) G.length cg) ∧ w'.cell? ⟨b, 3, none⟩ = some (.slice (some ⟨g, 0, none⟩) F.length F.length) ∧ w'.cell? ⟨b, 4, none⟩ = some (.int .i64 (k' : Int)) ∧ w'.cell? ⟨b, 5, none⟩ = some (.int .i64 (j' : Int)) ∧
            w'.cell? ⟨g, k' * 2, none⟩ = some (.int .i64 pk.1) ∧ w'.cell? ⟨g, k' * 2 + 1, none⟩ = some (.int .i64 pk.2) ∧ w'.cell? ⟨bG, oG + (j' - 1) * 3, none⟩ = some (.int .i64 lg'.f) ∧ w'.cell? ⟨bG, oG + (j' - 1) * 3 + 1, none⟩ = some (.int .i64 lg'.t) ∧ w'.cell? ⟨bG, oG + (j' - 1) * 3 + 2, none⟩ = some (.string lg'.s))
          (exact tk_kept (by repeat (first | with_reducible exact Below.refl _ _ | with_reducible assumption | with_reducible refine Below.drew ?_ | with_reducible refine below_drewN ?_ _ | with_reducible refine below_callM ?_ (Nat.le_refl _) hbA)) hlb hlg hlG m1 m2 m3 m4 m5 d1 d2 x1 x2 x3 )
          ((go_at_call 127
            with_reducible refine (touch_is pk.1 pk.2 lg'.f lg'.t lg'.s _ _ hbAq).mono ?_
            rintro e wA ⟨rfl, hbA⟩))
        all_goals
          have hA0 : Below wr.heap.size wr wA := by repeat (first | with_reducible exact Below.refl _ _ | with_reducible assumption | with_reducible refine Below.drew ?_ | with_reducible refine below_drewN ?_ _ | with_reducible refine below_callM ?_ (Nat.le_refl _) hbA)
          have hA1 := (hA0.block _ hlb).trans HB'.out
          go_wp2_with fail
          with_reducible refine (takeFirst_any b X A cf F _ _ vm k' j' sh' wA hk2 HI.out.sF HI.out.rF (by omega) (by omega) ((HI.out.eF.below hBr).below hA0) hA1).mono ?_
          rintro e w2 ⟨rfl, hb2, hO2⟩
          go_wp2_with fail
          have hN := cellN_4 hb2
          exact ⟨⟨k' + 1, j', la, lb, lg', yn, u', sh' + growE F[k'], by omega, HTn.out, hb2, HO.out.trans ((Only.below hlb hA0).trans hO2)⟩, by omega⟩
      · have hbAq : decide (lg'.f ≤ pk.2 ∧ pk.1 ≤ lg'.t) = false := decide_eq_false ht
        have hef : ∀ h : k' < F.length, ¬ (lg'.f ≤ F[k'].f + sh' + F[k'].s.size ∧ F[k'].f + sh' ≤ lg'.t) := fun h => by rw [← e2, ← e1]; exact ht
        have HEf := Lib.hid hef
        clear ht e1 e2 hef
        go_wp2_with fail
        go_region_held3 (fun w' => Below wr.heap.size wr w' ∧ w'.cell? ⟨b, 1, none⟩ = some (.slice A F.length cf) ∧ w'.cell? ⟨b, 2, none⟩ = some (.slice (some ⟨bG, oG, none⟩) G.length cg) ∧ w'.cell? ⟨b, 3, none⟩ = some (.slice (some ⟨g, 0, none⟩) F.length F.length) ∧ w'.cell? ⟨b, 4, none⟩ = some (.int .i64 (k' : Int)) ∧ w'.cell? ⟨b, 5, none⟩ = some (.int .i64 (j' : Int)) ∧
            w'.cell? ⟨g, k' * 2, none⟩ = some (.int .i64 pk.1) ∧ w'.cell? ⟨g, k' * 2 + 1, none⟩ = some (.int .i64 pk.2) ∧ w'.cell? ⟨bG, oG + (j' - 1) * 3, none⟩ = some (.int .i64 lg'.f) ∧ w'.cell? ⟨bG, oG + (j' - 1) * 3 + 1, none⟩ = some (.int .i64 lg'.t) ∧ w'.cell? ⟨bG, oG + (j' - 1) * 3 + 2, none⟩ = some (.string lg'.s))
          (exact tk_kept (by repeat (first | with_reducible exact Below.refl _ _ | with_reducible assumption | with_reducible refine Below.drew ?_ | with_reducible refine below_drewN ?_ _ | with_reducible refine below_callM ?_ (Nat.le_refl _) hbA)) hlb hlg hlG m1 m2 m3 m4 m5 d1 d2 x1 x2 x3 )
          ((go_at_call 127
            with_reducible refine (touch_is pk.1 pk.2 lg'.f lg'.t lg'.s _ _ hbAq).mono ?_
            rintro e wA ⟨rfl, hbA⟩))
        all_goals
          have hA0 : Below wr.heap.size wr wA := by repeat (first | with_reducible exact Below.refl _ _ | with_reducible assumption | with_reducible refine Below.drew ?_ | with_reducible refine below_drewN ?_ _ | with_reducible refine below_callM ?_ (Nat.le_refl _) hbA)
          have hlbW : b < wA.heap.size := Nat.lt_of_lt_of_le hlb hA0.size
          have hlgW : g < wA.heap.size := Nat.lt_of_lt_of_le hlg hA0.size
          have hlGW : bG < wA.heap.size := Nat.lt_of_lt_of_le hlG hA0.size
          have n1 := ((bcell hA0).1 _ _ hlb).trans m1
          have n2 := ((bcell hA0).1 _ _ hlb).trans m2
          have n3 := ((bcell hA0).1 _ _ hlb).trans m3
          have n4 := ((bcell hA0).1 _ _ hlb).trans m4
          have n5 := ((bcell hA0).1 _ _ hlb).trans m5
          have f5W := ((bcell hA0).2 _ _ hlb).trans f5
          have r1W := ((bcell hA0).1 _ _ hlg).trans r1
          have r2W := ((bcell hA0).1 _ _ hlg).trans r2
          have hbW := (hA0.block _ hlb).trans HB'.out
          have hOW := HO.out.trans (Only.below hlb hA0)
          have hBW := Only.old HI.out.hb hB0 hOW
          clear hbA d1 d2 x1 x2 x3 m1 m2 m3 m4 m5 r1 r2
          by_cases hj2 : j' < G.length
          · obtain ⟨bG2, oG2, hAG2, _, z1, z2, z3⟩ := HI.out.eG.get hj2
            injection hAG2 with hAG2
            injection hAG2 with hAG2 hAG3
            subst hAG2
            subst hAG3
            obtain ⟨x, hx⟩ : ∃ x, x = G[j'] := ⟨_, rfl⟩
            have HX := Lib.hid hx
            rw [← hx] at z1 z2 z3
            clear hx
            have y1 : wA.cell? ⟨bG, oG + j' * 3, none⟩ = some (.int .i64 x.f) := (hBW.cell hbG).trans z1
            have y2 : wA.cell? ⟨bG, oG + j' * 3 + 1, none⟩ = some (.int .i64 x.t) := (hBW.cell hbG).trans z2
            have y3 : wA.cell? ⟨bG, oG + j' * 3 + 2, none⟩ = some (.string x.s) := (hBW.cell hbG).trans z3
            have hj2' : (j' : Int) < (G.length : Int) := by omega
            clear z1 z2 z3
            by_cases ht2 : x.f ≤ (l2' : Int) ∧ (l1' : Int) ≤ x.t
            · have hbBq : decide (x.f ≤ (l2' : Int) ∧ (l1' : Int) ≤ x.t) = true := decide_eq_true ht2
              obtain ⟨un, hTn⟩ := HT.out.takeG hj2 (by rw [← HX.out]; exact ht2.1)
              rw [← HX.out] at hTn
              have HTn := Lib.hid hTn
              clear hTn ht2
              go_wp2_with fail
              go_region_held3 (fun w' => Below wA.heap.size wA w' ∧ w'.cell? ⟨b, 1, none⟩ = some (.slice A F.length cf) ∧ w'.cell? ⟨b, 2, none⟩ = some (.slice (some ⟨bG, oG, none⟩) G.length cg) ∧ w'.cell? ⟨b, 3, none⟩ = some (.slice (some ⟨g, 0, none⟩) F.length F.length) ∧ w'.cell? ⟨b, 4, none⟩ = some (.int .i64 (k' : Int)) ∧ w'.cell? ⟨b, 5, none⟩ = some (.int .i64 (j' : Int)) ∧
                  w'.cell? ⟨g, (k' - 1) * 2, none⟩ = some (.int .i64 (l1' : Int)) ∧ w'.cell? ⟨g, (k' - 1) * 2 + 1, none⟩ = some (.int .i64 (l2' : Int)) ∧ w'.cell? ⟨bG, oG + j' * 3, none⟩ = some (.int .i64 x.f) ∧ w'.cell? ⟨bG, oG + j' * 3 + 1, none⟩ = some (.int .i64 x.t) ∧ w'.cell? ⟨bG, oG + j' * 3 + 2, none⟩ = some (.string x.s))
                (exact tk_kept (by repeat (first | with_reducible exact Below.refl _ _ | with_reducible assumption | with_reducible refine Below.drew ?_ | with_reducible refine below_drewN ?_ _ | with_reducible refine below_callM ?_ (Nat.le_refl _) hbB)) hlbW hlgW hlGW n1 n2 n3 n4 n5 r1W r2W y1 y2 y3 )
                ((go_at_call 127
                  with_reducible refine (touch_is (l1' : Int) (l2' : Int) x.f x.t x.s _ _ hbBq).mono ?_
                  rintro e wB ⟨rfl, hbB⟩))
              all_goals
                have hB2 : Below wA.heap.size wA wB := by repeat (first | with_reducible exact Below.refl _ _ | with_reducible assumption | with_reducible refine Below.drew ?_ | with_reducible refine below_drewN ?_ _ | with_reducible refine below_callM ?_ (Nat.le_refl _) hbB)
                have hB3 := (hB2.block _ hlbW).trans hbW
                have n5' : wB.cell? ⟨b, 5, none⟩ = some (.int .i64 (j' : Int)) := ((bcell hB2).1 _ _ hlbW).trans n5
                have f5' : wB.frozen? ⟨b, 5, none⟩ = false := ((bcell hB2).2 _ _ hlbW).trans f5W
                go_wp2_with fail
                have hN := cellN_4 (mg_set5 (j' := j' + 1) hB3)
                exact ⟨⟨k', j' + 1, l1', l2', x, y', un, sh', hkk, HTn.out, mg_set5 hB3, (hOW.trans (Only.below hlbW hB2)).set1 5 _⟩, mg_less ⟨hN4, hN5⟩ hN (by omega)⟩
            · have hbBq : decide (x.f ≤ (l2' : Int) ∧ (l1' : Int) ≤ x.t) = false := decide_eq_false ht2
              have HT2 := Lib.hid ht2
              clear ht2
              go_wp2_with fail
              go_region_held3 (fun w' => Below wA.heap.size wA w' ∧ w'.cell? ⟨b, 1, none⟩ = some (.slice A F.length cf) ∧ w'.cell? ⟨b, 2, none⟩ = some (.slice (some ⟨bG, oG, none⟩) G.length cg) ∧ w'.cell? ⟨b, 3, none⟩ = some (.slice (some ⟨g, 0, none⟩) F.length F.length) ∧ w'.cell? ⟨b, 4, none⟩ = some (.int .i64 (k' : Int)) ∧ w'.cell? ⟨b, 5, none⟩ = some (.int .i64 (j' : Int)) ∧
                  w'.cell? ⟨g, (k' - 1) * 2, none⟩ = some (.int .i64 (l1' : Int)) ∧ w'.cell? ⟨g, (k' - 1) * 2 + 1, none⟩ = some (.int .i64 (l2' : Int)) ∧ w'.cell? ⟨bG, oG + j' * 3, none⟩ = some (.int .i64 x.f) ∧ w'.cell? ⟨bG, oG + j' * 3 + 1, none⟩ = some (.int .i64 x.t) ∧ w'.cell? ⟨bG, oG + j' * 3 + 2, none⟩ = some (.string x.s))
                (exact tk_kept (by repeat (first | with_reducible exact Below.refl _ _ | with_reducible assumption | with_reducible refine Below.drew ?_ | with_reducible refine below_drewN ?_ _ | with_reducible refine below_callM ?_ (Nat.le_refl _) hbB)) hlbW hlgW hlGW n1 n2 n3 n4 n5 r1W r2W y1 y2 y3 )
                ((go_at_call 127
                  with_reducible refine (touch_is (l1' : Int) (l2' : Int) x.f x.t x.s _ _ hbBq).mono ?_
                  rintro e wB ⟨rfl, hbB⟩))
              all_goals
                have hB2 : Below wA.heap.size wA wB := by repeat (first | with_reducible exact Below.refl _ _ | with_reducible assumption | with_reducible refine Below.drew ?_ | with_reducible refine below_drewN ?_ _ | with_reducible refine below_callM ?_ (Nat.le_refl _) hbB)
                have hB3 := (hB2.block _ hlbW).trans hbW
                go_wp2_with fail
                refine bodyPost_ret (results_none rfl _ _ _) rfl ?_
                exact ⟨rfl, k', j', l1', l2', lg', y', u', sh', hkk, HT.out, ⟨HEf.out, fun h => by rw [← HX.out]; exact HT2.out⟩, hB3, hOW.trans (Only.below hlbW hB2)⟩
          · have hje : j' = G.length := by omega
            have q5 : decide ((j' : Int) < (G.length : Int)) = false := by simp; omega
            clear hje
            go_wp2_with fail
            go_quiet (fail)
            go_wp2_with fail
            refine bodyPost_ret (results_none rfl _ _ _) rfl ?_
            exact ⟨rfl, k', j', l1', l2', lg', y', u', sh', hkk, HT.out, ⟨HEf.out, fun h => absurd h hj2⟩, hbW, hOW.drewN _⟩
    · have hke : k' = F.length := by omega
      have q4 : decide ((k' : Int) < (F.length : Int)) = false := by simp; omega
      have hef : ∀ h : k' < F.length, ¬ (lg'.f ≤ F[k'].f + sh' + F[k'].s.size ∧ F[k'].f + sh' ≤ lg'.t) := fun h => absurd h hk2
      have HEf := Lib.hid hef
      have hA0 := Below.refl wr.heap.size wr
      have hlbW : b < wr.heap.size := Nat.lt_of_lt_of_le hlb hA0.size
      have hlgW : g < wr.heap.size := Nat.lt_of_lt_of_le hlg hA0.size
      have hlGW : bG < wr.heap.size := Nat.lt_of_lt_of_le hlG hA0.size
      have n1 := ((bcell hA0).1 _ _ hlb).trans m1
      have n2 := ((bcell hA0).1 _ _ hlb).trans m2
      have n3 := ((bcell hA0).1 _ _ hlb).trans m3
      have n4 := ((bcell hA0).1 _ _ hlb).trans m4
      have n5 := ((bcell hA0).1 _ _ hlb).trans m5
      have f5W := ((bcell hA0).2 _ _ hlb).trans f5
      have r1W := ((bcell hA0).1 _ _ hlg).trans r1
      have r2W := ((bcell hA0).1 _ _ hlg).trans r2
      have hbW := (hA0.block _ hlb).trans HB'.out
      have hOW := HO.out.trans (Only.below hlb hA0)
      have hBW := Only.old HI.out.hb hB0 hOW
      clear hef hke x1 x2 x3 m1 m2 m3 m4 m5 r1 r2
      go_wp2_with fail
      go_quiet (fail)
      by_cases hj2 : j' < G.length
      · obtain ⟨bG2, oG2, hAG2, _, z1, z2, z3⟩ := HI.out.eG.get hj2
        injection hAG2 with hAG2
        injection hAG2 with hAG2 hAG3
        subst hAG2
        subst hAG3
        obtain ⟨x, hx⟩ : ∃ x, x = G[j'] := ⟨_, rfl⟩
        have HX := Lib.hid hx
        rw [← hx] at z1 z2 z3
        clear hx
        have y1 : wr.cell? ⟨bG, oG + j' * 3, none⟩ = some (.int .i64 x.f) := (hBW.cell hbG).trans z1
        have y2 : wr.cell? ⟨bG, oG + j' * 3 + 1, none⟩ = some (.int .i64 x.t) := (hBW.cell hbG).trans z2
        have y3 : wr.cell? ⟨bG, oG + j' * 3 + 2, none⟩ = some (.string x.s) := (hBW.cell hbG).trans z3
        have hj2' : (j' : Int) < (G.length : Int) := by omega
        clear z1 z2 z3
        by_cases ht2 : x.f ≤ (l2' : Int) ∧ (l1' : Int) ≤ x.t
        · have hbBq : decide (x.f ≤ (l2' : Int) ∧ (l1' : Int) ≤ x.t) = true := decide_eq_true ht2
          obtain ⟨un, hTn⟩ := HT.out.takeG hj2 (by rw [← HX.out]; exact ht2.1)
          rw [← HX.out] at hTn
          have HTn := Lib.hid hTn
          clear hTn ht2
          go_wp2_with fail
          go_region_held3 (fun w' => Below wr.heap.size wr w' ∧ w'.cell? ⟨b, 1, none⟩ = some (.slice A F.length cf) ∧ w'.cell? ⟨b, 2, none⟩ = some (.slice (some ⟨bG, oG, none⟩) G.length cg) ∧ w'.cell? ⟨b, 3, none⟩ = some (.slice (some ⟨g, 0, none⟩) F.length F.length) ∧ w'.cell? ⟨b, 4, none⟩ = some (.int .i64 (k' : Int)) ∧ w'.cell? ⟨b, 5, none⟩ = some (.int .i64 (j' : Int)) ∧
              w'.cell? ⟨g, (k' - 1) * 2, none⟩ = some (.int .i64 (l1' : Int)) ∧ w'.cell? ⟨g, (k' - 1) * 2 + 1, none⟩ = some (.int .i64 (l2' : Int)) ∧ w'.cell? ⟨bG, oG + j' * 3, none⟩ = some (.int .i64 x.f) ∧ w'.cell? ⟨bG, oG + j' * 3 + 1, none⟩ = some (.int .i64 x.t) ∧ w'.cell? ⟨bG, oG + j' * 3 + 2, none⟩ = some (.string x.s))
            (exact tk_kept (by repeat (first | with_reducible exact Below.refl _ _ | with_reducible assumption | with_reducible refine Below.drew ?_ | with_reducible refine below_drewN ?_ _ | with_reducible refine below_callM ?_ (Nat.le_refl _) hbB)) hlbW hlgW hlGW n1 n2 n3 n4 n5 r1W r2W y1 y2 y3 )
            ((go_at_call 127
              with_reducible refine (touch_is (l1' : Int) (l2' : Int) x.f x.t x.s _ _ hbBq).mono ?_
              rintro e wB ⟨rfl, hbB⟩))
          all_goals
            have hB2 : Below wr.heap.size wr wB := by repeat (first | with_reducible exact Below.refl _ _ | with_reducible assumption | with_reducible refine Below.drew ?_ | with_reducible refine below_drewN ?_ _ | with_reducible refine below_callM ?_ (Nat.le_refl _) hbB)
            have hB3 := (hB2.block _ hlbW).trans hbW
            have n5' : wB.cell? ⟨b, 5, none⟩ = some (.int .i64 (j' : Int)) := ((bcell hB2).1 _ _ hlbW).trans n5
            have f5' : wB.frozen? ⟨b, 5, none⟩ = false := ((bcell hB2).2 _ _ hlbW).trans f5W
            go_wp2_with fail
            have hN := cellN_4 (mg_set5 (j' := j' + 1) hB3)
            exact ⟨⟨k', j' + 1, l1', l2', x, y', un, sh', hkk, HTn.out, mg_set5 hB3, (hOW.trans (Only.below hlbW hB2)).set1 5 _⟩, mg_less ⟨hN4, hN5⟩ hN (by omega)⟩
        · have hbBq : decide (x.f ≤ (l2' : Int) ∧ (l1' : Int) ≤ x.t) = false := decide_eq_false ht2
          have HT2 := Lib.hid ht2
          clear ht2
          go_wp2_with fail
          go_region_held3 (fun w' => Below wr.heap.size wr w' ∧ w'.cell? ⟨b, 1, none⟩ = some (.slice A F.length cf) ∧ w'.cell? ⟨b, 2, none⟩ = some (.slice (some ⟨bG, oG, none⟩) G.length cg) ∧ w'.cell? ⟨b, 3, none⟩ = some (.slice (some ⟨g, 0, none⟩) F.length F.length) ∧ w'.cell? ⟨b, 4, none⟩ = some (.int .i64 (k' : Int)) ∧ w'.cell? ⟨b, 5, none⟩ = some (.int .i64 (j' : Int)) ∧
              w'.cell? ⟨g, (k' - 1) * 2, none⟩ = some (.int .i64 (l1' : Int)) ∧ w'.cell? ⟨g, (k' - 1) * 2 + 1, none⟩ = some (.int .i64 (l2' : Int)) ∧ w'.cell? ⟨bG, oG + j' * 3, none⟩ = some (.int .i64 x.f) ∧ w'.cell? ⟨bG, oG + j' * 3 + 1, none⟩ = some (.int .i64 x.t) ∧ w'.cell? ⟨bG, oG + j' * 3 + 2, none⟩ = some (.string x.s))
            (exact tk_kept (by repeat (first | with_reducible exact Below.refl _ _ | with_reducible assumption | with_reducible refine Below.drew ?_ | with_reducible refine below_drewN ?_ _ | with_reducible refine below_callM ?_ (Nat.le_refl _) hbB)) hlbW hlgW hlGW n1 n2 n3 n4 n5 r1W r2W y1 y2 y3 )
            ((go_at_call 127
              with_reducible refine (touch_is (l1' : Int) (l2' : Int) x.f x.t x.s _ _ hbBq).mono ?_
              rintro e wB ⟨rfl, hbB⟩))
          all_goals
            have hB2 : Below wr.heap.size wr wB := by repeat (first | with_reducible exact Below.refl _ _ | with_reducible assumption | with_reducible refine Below.drew ?_ | with_reducible refine below_drewN ?_ _ | with_reducible refine below_callM ?_ (Nat.le_refl _) hbB)
            have hB3 := (hB2.block _ hlbW).trans hbW
            go_wp2_with fail
            refine bodyPost_ret (results_none rfl _ _ _) rfl ?_
            exact ⟨rfl, k', j', l1', l2', lg', y', u', sh', hkk, HT.out, ⟨HEf.out, fun h => by rw [← HX.out]; exact HT2.out⟩, hB3, hOW.trans (Only.below hlbW hB2)⟩
      · have hje : j' = G.length := by omega
        have q5 : decide ((j' : Int) < (G.length : Int)) = false := by simp; omega
        clear hje
        go_wp2_with fail
        go_quiet (fail)
        go_wp2_with fail
        refine bodyPost_ret (results_none rfl _ _ _) rfl ?_
        exact ⟨rfl, k', j', l1', l2', lg', y', u', sh', hkk, HT.out, ⟨HEf.out, fun h => absurd h hj2⟩, hbW, by first | exact hOW | exact hOW.drewN _ | exact (hOW.drewN _).drewN _⟩
end Go.Proofs.YtkdnacniligjjaaDoor
