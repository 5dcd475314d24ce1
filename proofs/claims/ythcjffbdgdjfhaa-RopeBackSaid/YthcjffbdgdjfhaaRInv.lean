/-
  Contracts of the specification's Places and Invert.
-/
import Derived.Test.YthcjffbdgdjfhaaInv
import Derived.Deep.AppendLies
namespace Go.Proofs.Ythcjffbdgdjfhaa
set_option linter.unusedVariables false
set_option linter.unusedSimpArgs false
open Go.RowKit

theorem heap_alloc2' (w : World) (o o2 : Obj) : ((w.alloc o).alloc o2).heap[w.heap.size + 1]? = some o2 := heap_alloc2 w o o2

set_option maxRecDepth 100000 in
set_option maxHeartbeats 1000000 in
theorem rPlaces_own (n : Int) (c : Nat) (A : Option Addr) (l : List Ed) (w : World) (hl : Small l) (hn : n ≤ 60000) (hr : rising n 0 l = true) (hE : EdsV w A l) :
    Calls Try.prog 47 #[.slice A l.length c] w fun e w' => ∃ v, e = .returned v ∧ w'.ownsRow w.heap.size 49 2 v l.length (spCells (placedL 0 l)) ∧ Below w.heap.size w w' := by
  have hl1 := hl.1
  obtain ⟨i0, hi0, hz0, hz1, hz2⟩ := info_parts infoSpan
  have Hr := Lib.hid hr
  clear hr
  go_enter Try.func47, Try.ntmps47
  go_wp2_with fail
  go_loopw [3, 4, 5] (fun v sh i wr => ∃ (k : Nat), k ≤ l.length ∧ i = .int .i64 k ∧ sh = .int .i64 (sumG (l.take k)) ∧ wr.ownsRow w.heap.size 49 2 v k (spCells ((placedL 0 l).take k)) ∧ Below w.heap.size w wr) (fun _ _ i _ => l.length - (intOf i).toNat)
  case atStart => exact ⟨0, by omega, rfl, by simp [sumG], ⟨by simp [spCells], .inl ⟨rfl, rfl⟩⟩, Below.refl _ _⟩
  case round =>
    obtain ⟨k, hk, rfl, rfl, hown, hB⟩ := hrel
    have hbd := sumG_take_bd hn (Int.le_refl 0) hl Hr.out k
    by_cases hlt : k < l.length
    · obtain ⟨b, off, rfl, hb, c1, c2, c3⟩ := (hE.below hB).get hlt
      have hg := rising_get Hr.out hlt
      have hsz := hl.get hlt
      have hS := Lib.hid (sumG_take_succ hlt)
      have hgd : growE l[k] = (l[k].s.size : Int) - (l[k].t - l[k].f) := rfl
      have Hg := Lib.hid hgd
      have hb1 := hB.size
      clear hE hgd
      have hbox : ∀ w1 : World, ((((wr.alloc (.cells #[.int .i64 l[k].f, .int .i64 l[k].t, .string l[k].s] 61)).alloc (.cells #[.int .i64 (l[k].f + sumG (l.take k)), .int .i64 (l[k].f + sumG (l.take k) + (l[k].s.size : Int))] 49)).grownBy w1 u3.ownBlock) →
          w1.cell? ⟨wr.heap.size, 0, none⟩ = some (.int .i64 l[k].f) ∧ w1.cell? ⟨wr.heap.size, 1, none⟩ = some (.int .i64 l[k].t) ∧ w1.cell? ⟨wr.heap.size, 2, none⟩ = some (.string l[k].s)) := by
        intro w1 hgrow
        have hne : u3.ownBlock ≠ some wr.heap.size := fun h => by have := (hown.lt _ h).2; omega
        refine ⟨?_, ?_, ?_⟩ <;> (rw [hgrow.cell_far _ (by simp; try omega) (Ne.symm hne)]; simp)
      have Hbox := Lib.hid hbox
      clear hbox
      go_wp2_with (at_builtin; refine wpList_append_own _ rfl _ _ 76 rfl w.heap.size 49 i0 _ 2 16 Try.underlying76 hi0 hz0 hz1 hz2 rfl (by decide) _ _ _ rfl ((hown.alloc _).alloc _) ⟨wr.heap.size + 1, 0, none⟩ 1 1 [.int .i64 (l[k].f + sumG (l.take k)), .int .i64 (l[k].f + sumG (l.take k) + (l[k].s.size : Int))] rfl rfl ?c1 ?c2 ?c3 ?c4 ?c5 ?_)
      case c1 => exact World.news_of_block (heap_alloc2' wr _ _)
      case c2 => simp [Value.oneCell']
      case c3 => unfold maxLen; omega
      case c4 => omega
      case c5 => simp; omega
      intro v' w1 hown1 hgrow _
      obtain ⟨d1, d2, d3⟩ := Hbox.out w1 hgrow
      go_wp2_with fail
      refine ⟨⟨k + 1, by omega, by go_num, ?_, ?_, ?_⟩, by simp [intOf]; omega⟩
      · rw [hS.out, Hg.out]
      · have hpl : k < (placedL 0 l).length := by rw [placedL_length]; exact hlt
        rw [List.take_succ_eq_append_getElem hpl, spCells_append, placedL_get 0 l k hlt hpl, Int.zero_add]
        exact hown1
      · exact ((hB.alloc hB.size _).alloc (by simp; omega) _).grown hgrow (by simp; omega) (fun g hg => (hown.lt g hg).1)
    · have hke : k = l.length := by omega
      subst hke
      go_wp2_with fail
      go_ret
      refine ⟨_, rfl, ?_, hB⟩
      have : (placedL 0 l).take l.length = placedL 0 l := by rw [← placedL_length 0 l, List.take_length]
      rw [← this]
      exact hown

theorem ownsRow_less {w : World} {base base' e size n : Nat} {v : Value} {xs : List Value} (h : w.ownsRow base e size v n xs) (hb : base' ≤ base) : w.ownsRow base' e size v n xs := by
  refine ⟨h.1, ?_⟩
  rcases h.2 with h | ⟨g, cap, cur, hv, hg, hh⟩
  · exact .inl h
  · exact .inr ⟨g, cap, cur, hv, by omega, hh⟩
theorem own_shape {w : World} {base e size n : Nat} {v : Value} {xs : List Value} (h : w.ownsRow base e size v n xs) : ∃ ao cap, v = .slice ao n cap ∧ (0 < n → ∃ g, ao = some ⟨g, 0, none⟩ ∧ base ≤ g ∧ g < w.heap.size) := by
  rcases h.2 with ⟨rfl, rfl⟩ | ⟨g, cap, cur, rfl, hb, hg, _⟩
  · exact ⟨none, 0, rfl, fun h => by omega⟩
  · have hlt : g < w.heap.size := by
      rcases Nat.lt_or_ge g w.heap.size with h | h
      · exact h
      · rw [Array.getElem?_eq_none h] at hg; cases hg
    exact ⟨_, cap, rfl, fun _ => ⟨g, rfl, hb, hlt⟩⟩

set_option maxRecDepth 100000 in
set_option maxHeartbeats 4000000 in
/-- the specification's Invert, of edits that are right -/
theorem rInvert_own (t : ByteArray) (c : Nat) (A : Option Addr) (l : List Ed) (w : World) (hl : Small l) (ht : t.size ≤ 60000) (hr : rising t.size 0 l = true) (hE : EdsV w A l) :
    Calls Try.prog 24 #[.string t, .slice A l.length c] w fun e w' => ∃ v, e = .returned v ∧ w'.ownsRow w.heap.size 61 3 v (invertL t 0 l).length (edsCells (invertL t 0 l)) ∧ Below w.heap.size w w' := by
  have hl1 := hl.1
  have hpl := placedL_length 0 l
  have hil := invertL_length t 0 l
  obtain ⟨i0, hi0, hz0, hz1, hz2⟩ := info_parts infoEdit2
  have Hr := Lib.hid hr
  have Hpl := Lib.hid hpl
  have Hil := Lib.hid hil
  clear hr hpl hil
  go_enter Try.func24, Try.ntmps24
  go_wp2_with fail
  refine (rPlaces_own t.size c A l w hl (by omega) Hr.out hE).mono ?_
  rintro e w1 ⟨v, rfl, hown2, hb1⟩
  obtain ⟨ao, cap, rfl, hao⟩ := own_shape hown2
  have hs1 := hb1.size
  go_wp2_with fail
  go_loopw [5, 7] (fun v i wr => ∃ (k : Nat), k ≤ l.length ∧ i = .int .i64 k ∧ wr.ownsRow w1.heap.size 61 3 v k (edsCells ((invertL t 0 l).take k)) ∧ Below w1.heap.size w1 wr) (fun _ i _ => l.length - (intOf i).toNat)
  case atStart => exact ⟨0, by omega, rfl, ⟨by simp [edsCells], .inl ⟨rfl, rfl⟩⟩, Below.refl _ _⟩
  case round =>
    obtain ⟨k, hk, rfl, hown, hB⟩ := hrel
    have hBw := hb1.trans (hB.mono hs1)
    by_cases hlt : k < l.length
    · have hg := rising_get Hr.out hlt
      have hkp : k < (placedL 0 l).length := by rw [Hpl.out]; exact hlt
      have hki : k < (invertL t 0 l).length := by rw [Hil.out]; exact hlt
      obtain ⟨g, rfl, hg1, hg2⟩ := hao (by omega)
      have hsp := ownsRow_below hown2 hB
      obtain ⟨s1, s2⟩ := sp_get hsp hkp
      have hpk := placedL_get 0 l k hlt hkp
      have hik := invertL_get t 0 l k hlt hki
      obtain ⟨b, off, x, y, s, rfl, hb, c1', c2', c3', hek⟩ := hE.getN hlt (by omega) (by omega)
      have c1 : wr.cell? ⟨b, off + k * 3, none⟩ = some (.int .i64 (x : Int)) := by rw [hBw.cell hb]; exact c1'
      have c2 : wr.cell? ⟨b, off + k * 3 + 1, none⟩ = some (.int .i64 (y : Int)) := by rw [hBw.cell hb]; exact c2'
      clear c1' c2' c3'
      rw [hek] at hg hpk hik
      obtain ⟨_, g1, g2', g3⟩ := hg
      simp only at g1 g2' g3 hpk hik
      generalize (placedL 0 l)[k] = pk at hpk s1 s2
      have hik2 : (invertL t 0 l)[k] = ⟨pk.1, pk.2, t.extract x y⟩ := by rw [hik, hpk]; simp
      have Hik := Lib.hid hik2
      have n1 : x ≤ y := by omega
      have n2 : y ≤ t.size := by omega
      have hz1' := hB.size
      have hgw : g < wr.heap.size := by omega
      have hbw : b < wr.heap.size := by omega
      have hne1 : u5.ownBlock ≠ some g := fun h => by have := (hown.lt _ h).1; omega
      have hne2 : u5.ownBlock ≠ some b := fun h => by have := (hown.lt _ h).1; omega
      clear hE hpk hik hek hik2 hao hsp
      go_wp2_with fail
      go_region_held3 (fun w' => w'.cell? ⟨g, k * 2, none⟩ = some (.int .i64 pk.1) ∧ w'.cell? ⟨g, k * 2 + 1, none⟩ = some (.int .i64 pk.2) ∧ w'.cell? ⟨b, off + k * 3, none⟩ = some (.int .i64 (x : Int)) ∧ w'.cell? ⟨b, off + k * 3 + 1, none⟩ = some (.int .i64 (y : Int)))
        (first
          | (go_keep; done)
          | (go_split_ands
             refine ⟨?_, ?_, ?_, ?_⟩
             · (rw [hgrow.cell_far _ (by simp; try omega) (Ne.symm hne1)]; assumption)
             · (rw [hgrow.cell_far _ (by simp; try omega) (Ne.symm hne1)]; assumption)
             · (rw [hgrow.cell_far _ (by simp; try omega) (Ne.symm hne2)]; assumption)
             · (rw [hgrow.cell_far _ (by simp; try omega) (Ne.symm hne2)]; assumption)))
        ((refine step_append_lies _ (by rfl) _ _ _ (by rfl) w1.heap.size 61 i0 _ 3 32 Try.underlying22 hi0 hz0 hz1 hz2 rfl (by omega) u5 k (edsCells ((invertL t 0 l).take k)) (by rfl) ((hown.alloc _).drew)
            ⟨wr.heap.size, 0, none⟩ 1 1 (edCells ⟨pk.1, pk.2, t.extract x y⟩) (by rfl) (by rfl) (World.news_of_block (cs := #[.int .i64 pk.1, .int .i64 pk.2, .string (t.extract x y)]) (t := 61) (fr := (0, 0)) (heap_alloc_new wr _)) (by simp [edCells, Value.oneCell'])
            (by omega) (by unfold maxLen; omega) (by omega) (by simp; omega) (wr.heap.size + 1) (by simp) ?_; intro gg cap2 w2 hown1 hgrow hat hlt9))
      go_wp2_with fail
      refine ⟨⟨k + 1, by omega, by go_num, ?_, ?_⟩, by simp [intOf]; omega⟩
      · rw [List.take_succ_eq_append_getElem hki, edsCells_append, Hik.out]
        exact hown1
      · exact ((hB.alloc hz1' _).drew).grown hgrow (by simp; omega) (fun g hg => (hown.lt g hg).1)
    · have hke : k = l.length := by omega
      subst hke
      clear hE
      go_wp2_with fail
      go_ret
      refine ⟨_, rfl, ?_, hBw⟩
      have h2 : (invertL t 0 l).length = l.length := Hil.out
      have h3 : (invertL t 0 l).take l.length = invertL t 0 l := by rw [← h2, List.take_length]
      rw [← h3, h3, h2]
      rw [h3] at hown
      exact ownsRow_less hown hs1
end Go.Proofs.Ythcjffbdgdjfhaa
