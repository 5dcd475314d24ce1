/-
  Contracts of placed and Invert.
-/
import Derived.Test.YtmdgclcakogggaaSl
import Derived.Test.YtmdgclcakogggaaSp
import Derived.Test.YtmdgclcakogggaaInvMath
import Derived.StillTailTactics
import Derived.Deep.RegionHeld3
namespace Go.Proofs.Ytmdgclcakogggaa
set_option linter.unusedVariables false
set_option linter.unusedSimpArgs false
open Go.RowKit

set_option maxRecDepth 100000 in
set_option maxHeartbeats 1000000 in
theorem placed_own (n : Int) (c : Nat) (A : Option Addr) (l : List Ed) (w : World) (hl : Small l) (hn : n ≤ 60000) (hr : rising n 0 l = true) (hE : EdsV w A l) :
    Calls Try.prog 30 #[.slice A l.length c] w fun e w' => ∃ g, e = .returned (.slice (some ⟨g, 0, none⟩) l.length l.length) ∧ w'.ownsRow w.heap.size 60 2 (.slice (some ⟨g, 0, none⟩) l.length l.length) l.length (spCells (placedL 0 l)) ∧ Below w.heap.size w w' := by
  have hl1 := hl.1
  obtain ⟨i0, hi0, hz0, hz1, hz2⟩ := info_parts infoSpan
  have Hr := Lib.hid hr
  clear hr
  go_enter Try.func30, Try.ntmps30
  go_wp2_with (at_make; refine wpList_make_full _ rfl _ _ 57 rfl w.heap.size 60 i0 _ 2 Try.underlying57 hi0 hz0 hz1 _ _ _ _ l.length rfl rfl rfl rfl (by rw [hz2]; omega) (by unfold maxLen; omega) (Nat.le_refl _) ?_)
  intro w1 hown1 hgrow1
  have hb1 : Below w.heap.size w w1 := (Below.refl _ _).grown hgrow1 (Nat.le_refl _) (fun k hk => by cases hk)
  go_wp2_with fail
  go_loopw [4, 13] (fun sh i wr => ∃ (k : Nat) (xs : List Value), k ≤ l.length ∧ i = .int .i64 k ∧ sh = .int .i64 (sumG (l.take k)) ∧ wr.ownsRow w.heap.size 60 2 (.slice (some ⟨w.heap.size, 0, none⟩) l.length l.length) l.length xs ∧ xs.take (k * 2) = spCells ((placedL 0 l).take k) ∧ Below w.heap.size w wr) (fun _ i _ => l.length - (intOf i).toNat)
  case atStart => exact ⟨0, _, by omega, rfl, by simp [sumG], hown1, by simp [spCells], hb1⟩
  case round =>
    obtain ⟨k, xs, hk, rfl, rfl, hown, hx, hB⟩ := hrel
    have hbd := sumG_take_bd hn (Int.le_refl 0) hl Hr.out k
    by_cases hlt : k < l.length
    · obtain ⟨b, off, rfl, hb, c1, c2, c3⟩ := (hE.below hB).get hlt
      have hg := rising_get Hr.out hlt
      have hsz := hl.get hlt
      have hS := Lib.hid (sumG_take_succ hlt)
      have hgr : -100000 ≤ growE l[k] ∧ growE l[k] ≤ 100000 := by unfold growE; omega
      have hxl : xs.length = l.length * 2 := hown.1
      have d1 : wr.cell? ⟨w.heap.size, k * 2, none⟩ = some (xs[k * 2]'(by omega)) := by rw [hown.cellAt _ (by omega)]; exact List.getElem?_eq_getElem _
      have d2 : wr.cell? ⟨w.heap.size, k * 2 + 1, none⟩ = some (xs[k * 2 + 1]'(by omega)) := by rw [hown.cellAt _ (by omega)]; exact List.getElem?_eq_getElem _
      have f1 : wr.frozen? ⟨w.heap.size, k * 2, none⟩ = false := hown.frozenAt _
      have f2 : wr.frozen? ⟨w.heap.size, k * 2 + 1, none⟩ = false := hown.frozenAt _
      have hsz0 : w.heap.size < wr.heap.size := (hown.lt _ rfl).2
      have Hx := Lib.hid hx
      clear hE hx
      go_wp2_with fail
      refine (growth_any _ _ _ _ (by omega) (by omega) (by omega)).mono ?_
      rintro e w3 ⟨rfl, hb3⟩
      have e1 : growE { f := l[k].f, t := l[k].t, s := l[k].s } = growE l[k] := rfl
      rw [e1]
      clear e1
      go_wp2_with fail
      have ho2 := (((hown.stored (k * 2) (.int .i64 (l[k].f + sumG (l.take k)))).1.stored (k * 2 + 1) (.int .i64 (l[k].f + sumG (l.take k) + (l[k].s.size : Int)))).1).alloc (.cells #[.int .i64 l[k].f, .int .i64 l[k].t, .string l[k].s] 35)
      have hB2 := ((hB.setCell (p := ⟨w.heap.size, k * 2, none⟩) (Nat.le_refl _) (.int .i64 (l[k].f + sumG (l.take k)))).setCell (p := ⟨w.heap.size, k * 2 + 1, none⟩) (Nat.le_refl _) (.int .i64 (l[k].f + sumG (l.take k) + (l[k].s.size : Int)))).alloc (by simp; omega) (.cells #[.int .i64 l[k].f, .int .i64 l[k].t, .string l[k].s] 35)
      refine ⟨⟨k + 1, _, by omega, by go_num, by rw [hS.out], ownsRow_below ho2 hb3, ?_, hB2.trans (hb3.mono hB2.size)⟩, by simp [intOf]; omega⟩
      have hpl : k < (placedL 0 l).length := by rw [placedL_length]; exact hlt
      rw [show (k + 1) * 2 = k * 2 + 2 by omega, take_set2 _ _ _ _ (by omega), List.take_succ_eq_append_getElem hpl, spCells_append, Hx.out, placedL_get 0 l k hlt hpl, Int.zero_add]
    · have hke : k = l.length := by omega
      subst hke
      have hxl : xs.length = l.length * 2 := hown.1
      have hpl : (placedL 0 l).length = l.length := placedL_length 0 l
      rw [List.take_of_length_le (by omega), ← hpl, List.take_length] at hx
      subst hx
      go_wp2_with fail
      go_ret
      exact ⟨_, rfl, hown, hB⟩

theorem infoEdit2 : (Try.prog.info? 35).map (fun i => (i.zero, i.size, i.bytes)) = some (some (.agg #[.int .i64 0, .int .i64 0, .string ByteArray.empty]), 3, 32) := by kernel_rfl

theorem cell_new (X : World) (cs : Array Value) (e n i : Nat) {u : Value} (h : X.heap.size = n) (hu : cs[i]? = some u) : ((X.alloc (.cells cs e)).drew).cell? ⟨n, i, none⟩ = some u := by
  subst h
  have hn := heap_alloc_new X (.cells cs e)
  have : (X.alloc (.cells cs e)).cell? ⟨X.heap.size, i, none⟩ = cs[i]? := by
    simp only [World.cell?, hn]
    simp
  exact this.trans hu
def invertR (t : ByteArray) (l : List Ed) : List Ed := if checkE t.size l = 0 then invertL t 0 l else []

/-- an own slice and an error come back -/
def OwnsEds (w : World) (l : List Ed) (err : Int) (e : Ending) (w' : World) : Prop :=
  ∃ v, e = .returned (.tuple #[v, .int .i64 err]) ∧ w'.ownsRow w.heap.size 35 3 v l.length (edsCells l) ∧ Below w.heap.size w w'
theorem OwnsEds.gives {w w' : World} {l : List Ed} {err : Int} {e : Ending} (h : OwnsEds w l err e w') : GivesEds w l err e w' := by
  obtain ⟨v, rfl, ho, hb⟩ := h
  obtain ⟨A, c, rfl, h1, h2⟩ := EdsV.of_own ho
  exact ⟨A, c, rfl, h1, h2, hb⟩

set_option maxRecDepth 100000 in
set_option maxHeartbeats 2000000 in
theorem Invert_own (t : ByteArray) (c : Nat) (A : Option Addr) (l : List Ed) (w : World) (hl : Small l) (ht : t.size ≤ 60000) (hE : EdsV w A l) :
    Calls Try.prog 11 #[.string t, .slice A l.length c] w (OwnsEds w (invertR t l) (checkE t.size l)) := by
  have hl1 := hl.1
  by_cases h0 : checkE t.size l = 0
  · have hok := checkE_ok h0
    have hres : invertR t l = invertL t 0 l := by unfold invertR; rw [if_pos h0]
    rw [hres]
    clear hres
    have H0 := Lib.hid h0
    have q : (checkE t.size l != 0) = false := by simpa using h0
    clear h0
    have hr : rising t.size 0 l = true := hok.2.2.1
    have hpl := placedL_length 0 l
    have hil := invertL_length t 0 l
    obtain ⟨i0, hi0, hz0, hz1, hz2⟩ := info_parts infoEdit2
    have Hr := Lib.hid hr
    have Hpl := Lib.hid hpl
    have Hil := Lib.hid hil
    clear hr hok hpl hil
    go_enter Try.func11, Try.ntmps11
    go_wp2_with fail
    refine (Check_any t c A l w hl ht hE).mono ?_
    rintro e w0 ⟨rfl, hb0⟩
    have hs0 := hb0.size
    go_wp2_with (at_make; refine wpList_make_full _ rfl _ _ 22 rfl w.heap.size 35 i0 _ 3 Try.underlying22 hi0 hz0 hz1 _ _ _ _ l.length rfl rfl rfl rfl (by rw [hz2]; omega) (by unfold maxLen; omega) hs0 ?_)
    intro w1 hown1 hgrow1
    have hb1 : Below w.heap.size w w1 := hb0.grown hgrow1 hs0 (fun k hk => by cases hk)
    go_wp2_with fail
    refine (placed_own t.size c A l w1 hl (by omega) Hr.out (hE.below hb1)).mono ?_
    rintro e w2 ⟨g, rfl, hown2, hb2⟩
    have hs1 := hb1.size
    go_wp2_with fail
    have hgl : w1.heap.size ≤ g ∧ g < w2.heap.size := hown2.lt g rfl
    have hown1' := ownsRow_below hown1 hb2
    have hgd : w0.heap.size < w1.heap.size := (hown1.lt _ rfl).2
    go_loopw [22] (fun i wr => ∃ (k : Nat) (xs : List Value), k ≤ l.length ∧ i = .int .i64 k ∧ wr.ownsRow w.heap.size 35 3 (.slice (some ⟨w0.heap.size, 0, none⟩) l.length l.length) l.length xs ∧ xs.take (k * 3) = edsCells ((invertL t 0 l).take k) ∧
        wr.ownsRow w1.heap.size 60 2 (.slice (some ⟨g, 0, none⟩) l.length l.length) l.length (spCells (placedL 0 l)) ∧ Below w.heap.size w wr) (fun i _ => l.length - (intOf i).toNat)
    case atStart => exact ⟨0, _, by omega, rfl, hown1', by simp [edsCells], hown2, hb1.trans (hb2.mono hs1)⟩
    case round =>
      obtain ⟨k, xs, hk, rfl, hown, hx, hsp, hB⟩ := hrel
      by_cases hlt : k < l.length
      · have hg := rising_get Hr.out hlt
        have hkp : k < (placedL 0 l).length := by rw [Hpl.out]; exact hlt
        have hki : k < (invertL t 0 l).length := by rw [Hil.out]; exact hlt
        obtain ⟨s1, s2⟩ := sp_get hsp hkp
        have hpk := placedL_get 0 l k hlt hkp
        have hik := invertL_get t 0 l k hlt hki
        obtain ⟨b, off, x, y, s, rfl, hb, c1', c2', c3', hek⟩ := hE.getN hlt (by omega) (by omega)
        have c1 : wr.cell? ⟨b, off + k * 3, none⟩ = some (.int .i64 (x : Int)) := by rw [hB.cell hb]; exact c1'
        have c2 : wr.cell? ⟨b, off + k * 3 + 1, none⟩ = some (.int .i64 (y : Int)) := by rw [hB.cell hb]; exact c2'
        clear c1' c2' c3'
        have hz0 : w0.heap.size < wr.heap.size := (hown.lt _ rfl).2
        have m1 : ¬ wr.heap.size = w0.heap.size := by omega
        have m2 : ¬ w0.heap.size = wr.heap.size := by omega
        have m3 : ¬ b = w0.heap.size := by omega
        have m4 : ¬ w0.heap.size = b := by omega
        rw [hek] at hg hpk hik
        obtain ⟨_, g1, g2, g3⟩ := hg
        simp only at g1 g2 g3 hpk hik
        generalize (placedL 0 l)[k] = pk at hpk s1 s2
        have hik2 : (invertL t 0 l)[k] = ⟨pk.1, pk.2, t.extract x y⟩ := by rw [hik, hpk]; simp
        have Hik := Lib.hid hik2
        have Hx := Lib.hid hx
        have n1 : x ≤ y := by omega
        have n2 : y ≤ t.size := by omega
        have hxl : xs.length = l.length * 3 := hown.1
        have d1 : wr.cell? ⟨w0.heap.size, k * 3, none⟩ = some (xs[k * 3]'(by omega)) := by rw [hown.cellAt _ (by omega)]; exact List.getElem?_eq_getElem _
        have d2 : wr.cell? ⟨w0.heap.size, k * 3 + 1, none⟩ = some (xs[k * 3 + 1]'(by omega)) := by rw [hown.cellAt _ (by omega)]; exact List.getElem?_eq_getElem _
        have d3 : wr.cell? ⟨w0.heap.size, k * 3 + 2, none⟩ = some (xs[k * 3 + 2]'(by omega)) := by rw [hown.cellAt _ (by omega)]; exact List.getElem?_eq_getElem _
        have f1 : wr.frozen? ⟨w0.heap.size, k * 3, none⟩ = false := hown.frozenAt _
        have f2 : wr.frozen? ⟨w0.heap.size, k * 3 + 1, none⟩ = false := hown.frozenAt _
        have f3 : wr.frozen? ⟨w0.heap.size, k * 3 + 2, none⟩ = false := hown.frozenAt _
        clear hE hx hpk hik hek hik2
        go_wp2_with fail
        go_region_held3 (fun w' => w'.cell? ⟨wr.heap.size, 0, none⟩ = some (.int .i64 pk.1) ∧ w'.cell? ⟨wr.heap.size, 1, none⟩ = some (.int .i64 pk.2) ∧ w'.cell? ⟨b, off + k * 3, none⟩ = some (.int .i64 (x : Int)) ∧ w'.cell? ⟨b, off + k * 3 + 1, none⟩ = some (.int .i64 (y : Int)))
          (first | (go_keep; done) | (refine ⟨?_, ?_, ?_, ?_⟩ <;> first | exact cell_new _ _ _ _ _ (by simp) rfl | (go_keep; done))) (fail)
        go_wp2_with fail
        have st1 := hown.stored (k * 3) (.int .i64 pk.1)
        have st2 := st1.1.stored (k * 3 + 1) (.int .i64 pk.2)
        have st3 := st2.1.stored (k * 3 + 2) (.string (t.extract x y))
        have hgne : (Value.slice (some ⟨g, 0, none⟩) l.length l.length).ownBlock ≠ some w0.heap.size := by simp [Value.ownBlock]; omega
        have sp1 := ((hsp.kept st1.2 (.inr hgne)).kept st2.2 (.inr hgne)).kept st3.2 (.inr hgne)
        have hB2 := ((hB.setCell (p := ⟨w0.heap.size, k * 3, none⟩) hs0 (.int .i64 pk.1)).setCell (p := ⟨w0.heap.size, k * 3 + 1, none⟩) hs0 (.int .i64 pk.2)).setCell (p := ⟨w0.heap.size, k * 3 + 2, none⟩) hs0 (.string (t.extract x y))
        refine ⟨⟨k + 1, _, by omega, by go_num, (st3.1.alloc _).drew, ?_, (sp1.alloc _).drew, (hB2.alloc (by simp; omega) _).drew⟩, by simp [intOf]; omega⟩
        rw [show (k + 1) * 3 = k * 3 + 3 by omega, take_set3 _ _ _ _ _ (by omega), List.take_succ_eq_append_getElem hki, edsCells_append, Hx.out, Hik.out]
        rfl
      · have hke : k = l.length := by omega
        subst hke
        have hxl : xs.length = l.length * 3 := hown.1
        have hil : (invertL t 0 l).length = l.length := Hil.out
        rw [List.take_of_length_le (by omega), ← hil, List.take_length] at hx
        subst hx
        clear hE
        go_wp2_with fail
        go_ret2
        refine ⟨.slice (some ⟨w0.heap.size, 0, none⟩) l.length l.length, by rw [H0.out]; rfl, ?_, hB⟩
        rw [hil]
        exact hown
  · have H0 := Lib.hid h0
    have q : (checkE t.size l != 0) = true := by simpa using h0
    have hres : invertR t l = [] := by unfold invertR; rw [if_neg h0]
    rw [hres]
    clear h0 hres
    go_enter Try.func11, Try.ntmps11
    go_wp2_with fail
    refine (Check_any t c A l w hl ht hE).mono ?_
    rintro e w1 ⟨rfl, hb1⟩
    go_wp2_with fail
    go_ret2
    exact ⟨_, rfl, ⟨rfl, .inl ⟨rfl, rfl⟩⟩, hb1⟩
theorem Invert_any (t : ByteArray) (c : Nat) (A : Option Addr) (l : List Ed) (w : World) (hl : Small l) (ht : t.size ≤ 60000) (hE : EdsV w A l) :
    Calls Try.prog 11 #[.string t, .slice A l.length c] w (GivesEds w (invertR t l) (checkE t.size l)) :=
  (Invert_own t c A l w hl ht hE).mono fun _ _ h => h.gives
end Go.Proofs.Ytmdgclcakogggaa
