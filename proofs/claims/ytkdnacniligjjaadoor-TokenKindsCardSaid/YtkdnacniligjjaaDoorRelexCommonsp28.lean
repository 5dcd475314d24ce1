/-
  Contracts of Short, Cut and Same.; Rows of spans of the call's own.; Contracts of placed and Invert (own results).
-/
import Derived.Test.YtkdnacniligjjaaDoorRelexCommonsp21
import Derived.Deep.RegionHeld3
import Derived.Deep.AppendLies
import Derived.Test.YtkdnacniligjjaaDoorRelexCommonsp9
import Derived.Test.YtkdnacniligjjaaDoorRows
import Derived.StillTailTactics
import Derived.Test.YtkdnacniligjjaaDoorRelexCommonsp12
namespace Go.Proofs.YtkdnacniligjjaaDoor
open Go.RowKit

def shortB (t : ByteArray) : ByteArray := t.extract 0 (min t.size 20001)
theorem Short_any (t : ByteArray) (w : World) (ht : t.size ≤ maxLen) :
    Calls Tryd.prog 38 #[.string t] w fun e w' => e = .returned (.string (shortB t)) ∧ w = w' := by
  unfold maxLen at ht
  go_enter Tryd.func38, Tryd.ntmps38
  go_wp2
  go_ret
  refine ⟨ret_str ?_, rfl⟩
  unfold shortB
  rw [show (min (t.size : Int) 20001).toNat = min t.size 20001 from by omega]

theorem infoEdit : (Tryd.prog.info? 47).map (fun i => (i.zero, i.size, i.bytes)) = some (some (.agg #[.int .i64 0, .int .i64 0, .string ByteArray.empty]), 3, 32) := by kernel_rfl

theorem heap_alloc2 (w : World) (o o2 : Obj) : ((w.alloc o).alloc o2).drew.heap[w.heap.size + 1]? = some o2 := by
  have h := heap_alloc_new (w.alloc o) o2
  have hs : (w.alloc o).heap.size = w.heap.size + 1 := by simp
  rw [hs] at h
  exact h

def cutE (m : Nat) (e : Ed) : Ed := ⟨e.f, e.t, e.s.extract 0 (min e.s.size m)⟩
def cutL (m : Nat) (l : List Ed) : List Ed := (l.take 102).map (cutE m)

set_option maxRecDepth 100000 in
set_option maxHeartbeats 1000000 in
theorem Cut_own (m : Nat) (c : Nat) (A : Option Addr) (l : List Ed) (w : World) (hl : l.length ≤ maxLen) (hs : ∀ e ∈ l, e.s.size ≤ maxLen) (hE : EdsV w A l) :
    Calls Tryd.prog 24 #[.slice A l.length c, .int .i64 m] w fun e w' => ∃ v, e = .returned v ∧ w'.ownsRow w.heap.size 47 3 v (cutL m l).length (edsCells (cutL m l)) ∧ Below w.heap.size w w' := by
  unfold maxLen at hl hs
  obtain ⟨i0, hi0, hz0, hz1, hz2⟩ := info_parts infoEdit
  go_enter Tryd.func24, Tryd.ntmps24
  go_wp2_with fail
  go_loopw [5, 6] (fun v i wr => ∃ (k : Nat), k ≤ l.length ∧ k ≤ 102 ∧ i = .int .i64 k ∧ wr.ownsRow w.heap.size 47 3 v k (edsCells ((l.take k).map (cutE m))) ∧ Below w.heap.size w wr) (fun _ i _ => l.length - (intOf i).toNat)
  case atStart => exact ⟨0, by omega, by omega, rfl, ⟨rfl, .inl ⟨rfl, rfl⟩⟩, Below.refl _ _⟩
  case round =>
    obtain ⟨k, hk, hk2, rfl, hown, hB⟩ := hrel
    by_cases hlt : k < l.length
    · by_cases hlt2 : k < 102
      · obtain ⟨b, off, rfl, hb, c1, c2, c3⟩ := (hE.below hB).get hlt
        have hsz := hs _ (List.getElem_mem hlt)
        have hkl : (cutL m l).length = min 102 l.length := by simp [cutL]
        clear hE
        have hx : ∃ h : Nat, h ≤ l[k].s.size ∧ min (l[k].s.size : Int) (m : Int) = (h : Int) ∧ cutE m l[k] = ⟨l[k].f, l[k].t, l[k].s.extract 0 h⟩ :=
          ⟨min l[k].s.size m, by omega, by omega, rfl⟩
        obtain ⟨h, hh, hmin, hcut⟩ := hx
        have Hcut := Lib.hid hcut
        clear hcut
        have hh' : (h : Int) ≤ (l[k].s.size : Int) := by omega
        have hh0 : (0 : Int) ≤ (h : Int) := by omega
        go_wp2_with fail
        have hne : u5.ownBlock ≠ some wr.heap.size := fun h => by have := (hown.lt _ h).2; omega
        have hb1 := hB.size
        go_region_held3 (fun w' => w'.cell? ⟨wr.heap.size, 0, none⟩ = some (.int .i64 l[k].f) ∧ w'.cell? ⟨wr.heap.size, 1, none⟩ = some (.int .i64 l[k].t) ∧ w'.cell? ⟨wr.heap.size, 2, none⟩ = some (.string l[k].s))
          (first
            | go_keep
            | (go_split_ands
               refine ⟨?_, ?_, ?_⟩
               · (rw [hgrow.cell_far _ (by simp; try omega) (Ne.symm hne)]; assumption)
               · (rw [hgrow.cell_far _ (by simp; try omega) (Ne.symm hne)]; assumption)
               · (rw [hgrow.cell_far _ (by simp; try omega) (Ne.symm hne)]; assumption)))
          ((refine step_append_lies _ (by rfl) _ _ _ (by rfl) w.heap.size 47 i0 _ 3 32 Tryd.underlying33 hi0 hz0 hz1 hz2 rfl (by omega) u5 k (edsCells ((l.take k).map (cutE m))) (by rfl) (((hown.alloc _).alloc _).drew)
              ⟨wr.heap.size + 1, 0, none⟩ 1 1 (edCells ⟨l[k].f, l[k].t, l[k].s.extract 0 h⟩) (by rfl) (by rfl) (World.news_of_block (cs := #[.int .i64 l[k].f, .int .i64 l[k].t, .string (l[k].s.extract 0 h)]) (t := 47) (fr := (0, 0)) (heap_alloc2 wr _ _)) (by simp [edCells, Value.oneCell'])
              (by omega) (by unfold maxLen; omega) (by omega) (by simp; omega) (wr.heap.size + 2) (by simp) ?_; intro gg cap w1 hown1 hgrow hat hlt9))
        go_wp2_with fail
        refine ⟨⟨k + 1, by omega, by omega, by go_num, ?_, ?_⟩, by simp [intOf]; omega⟩
        · have hx : edsCells ((l.take (k + 1)).map (cutE m)) = edsCells ((l.take k).map (cutE m)) ++ edCells ⟨l[k].f, l[k].t, l[k].s.extract 0 h⟩ := by
            rw [List.take_succ_eq_append_getElem hlt, List.map_append, List.map_cons, List.map_nil, edsCells_append, Hcut.out]
          rw [hx]
          exact hown1
        · exact (((hB.alloc hB.size _).alloc (by simp; omega) _).drew).grown hgrow (by simp; omega) (fun g hg => (hown.lt g hg).1)
      · have hk3 : k = 102 := by omega
        subst hk3
        clear hE
        go_wp2_with fail
        go_ret
        refine ⟨_, rfl, ?_, hB⟩
        have : (cutL m l).length = 102 := by simp [cutL]; omega
        rw [this]
        exact hown
    · have hk3 : k = l.length := by omega
      subst hk3
      clear hE
      go_wp2_with fail
      go_ret
      refine ⟨_, rfl, ?_, hB⟩
      have h1 : cutL m l = (l.take l.length).map (cutE m) := by unfold cutL; rw [List.take_of_length_le (by omega), List.take_length]
      rw [h1]
      simpa using hown

theorem Cut_any (m : Nat) (c : Nat) (A : Option Addr) (l : List Ed) (w : World) (hl : l.length ≤ maxLen) (hs : ∀ e ∈ l, e.s.size ≤ maxLen) (hE : EdsV w A l) :
    Calls Tryd.prog 24 #[.slice A l.length c, .int .i64 m] w fun e w' => ∃ A' c', e = .returned (.slice A' (cutL m l).length c') ∧ EdsV w' A' (cutL m l) ∧ Below w.heap.size w w' :=
  (Cut_own m c A l w hl hs hE).mono fun e w' ⟨v, he, ho, hb⟩ => by
    obtain ⟨A', c', rfl, h1, _⟩ := EdsV.of_own ho
    exact ⟨A', c', he, h1, hb⟩
theorem cutL_small {m : Nat} (hm : m ≤ 60000) (l : List Ed) : Small (cutL m l) := by
  constructor
  · simp [cutL]; omega
  · intro e he
    simp only [cutL, List.mem_map] at he
    obtain ⟨x, _, rfl⟩ := he
    simp only [cutE]
    rw [ByteArray.size_extract]
    omega
end Go.Proofs.YtkdnacniligjjaaDoor

namespace Go.Proofs.YtkdnacniligjjaaDoor
set_option linter.unusedVariables false
set_option linter.unusedSimpArgs false
open Go.RowKit

theorem infoSpan : (Tryd.prog.info? 84).map (fun i => (i.zero, i.size, i.bytes)) = some (some (.agg #[.int .i64 0, .int .i64 0]), 2, 16) := by kernel_rfl
theorem ownsRow_below {w w' : World} {base e size n : Nat} {v : Value} {xs : List Value} (h : w.ownsRow base e size v n xs) (hb : Below w.heap.size w w') : w'.ownsRow base e size v n xs := by
  refine ⟨h.1, ?_⟩
  rcases h.2 with h | ⟨g, cap, cur, hv, hg, hh, h1, h2, h3, h4⟩
  · exact .inl h
  · have hlt : g < w.heap.size := by
      rcases Nat.lt_or_ge g w.heap.size with h | h
      · exact h
      · rw [Array.getElem?_eq_none h] at hh; cases hh
    exact .inr ⟨g, cap, cur, hv, hg, (hb.block g hlt).trans hh, h1, h2, h3, h4⟩
def spCells (l : List (Int × Int)) : List Value := l.flatMap fun p => [.int .i64 p.1, .int .i64 p.2]
theorem spCells_length (l : List (Int × Int)) : (spCells l).length = l.length * 2 := by
  unfold spCells
  induction l with
  | nil => rfl
  | cons e l ih => simp [List.flatMap_cons, ih]; omega
theorem spCells_append (l : List (Int × Int)) (p : Int × Int) : spCells (l ++ [p]) = spCells l ++ [.int .i64 p.1, .int .i64 p.2] := by simp [spCells]

theorem sp_get {w : World} {base g n cap : Nat} {l : List (Int × Int)} (h : w.ownsRow base 84 2 (.slice (some ⟨g, 0, none⟩) n cap) n (spCells l)) {k : Nat} (hk : k < l.length) :
    w.cell? ⟨g, k * 2, none⟩ = some (.int .i64 l[k].1) ∧ w.cell? ⟨g, k * 2 + 1, none⟩ = some (.int .i64 l[k].2) := by
  have hlen : n * 2 = l.length * 2 := by have := h.1; rw [spCells_length] at this; omega
  have key : ∀ (l : List (Int × Int)) (k : Nat) (hk : k < l.length), (spCells l)[k * 2]? = some (.int .i64 l[k].1) ∧ (spCells l)[k * 2 + 1]? = some (.int .i64 l[k].2) := by
    intro l
    induction l with
    | nil => intro k hk; simp at hk
    | cons p l ih =>
      intro k hk
      have hx : spCells (p :: l) = .int .i64 p.1 :: .int .i64 p.2 :: spCells l := by simp [spCells]
      rw [hx]
      match k with
      | 0 => simp
      | k + 1 =>
        have := ih k (by simpa using hk)
        rw [show (k + 1) * 2 = k * 2 + 2 by omega, show k * 2 + 2 + 1 = k * 2 + 1 + 2 by omega]
        simpa using this
  exact ⟨by rw [h.cellAt _ (by omega)]; exact (key l k hk).1, by rw [h.cellAt _ (by omega)]; exact (key l k hk).2⟩
end Go.Proofs.YtkdnacniligjjaaDoor

namespace Go.Proofs.YtkdnacniligjjaaDoor
set_option linter.unusedVariables false
set_option linter.unusedSimpArgs false
open Go.RowKit

set_option maxRecDepth 100000 in
set_option maxHeartbeats 1000000 in
theorem placed_own (n : Int) (c : Nat) (A : Option Addr) (l : List Ed) (w : World) (hl : Small l) (hn : n ≤ 60000) (hr : rising n 0 l = true) (hE : EdsV w A l) :
    Calls Tryd.prog 64 #[.slice A l.length c] w fun e w' => ∃ g, e = .returned (.slice (some ⟨g, 0, none⟩) l.length l.length) ∧ w'.ownsRow w.heap.size 84 2 (.slice (some ⟨g, 0, none⟩) l.length l.length) l.length (spCells (placedL 0 l)) ∧ Below w.heap.size w w' := by
  have hl1 := hl.1
  obtain ⟨i0, hi0, hz0, hz1, hz2⟩ := info_parts infoSpan
  have Hr := Lib.hid hr
  clear hr
  go_enter Tryd.func64, Tryd.ntmps64
  go_wp2_with (at_make; refine wpList_make_full _ rfl _ _ 92 rfl w.heap.size 84 i0 _ 2 Tryd.underlying92 hi0 hz0 hz1 _ _ _ _ l.length rfl rfl rfl rfl (by rw [hz2]; omega) (by unfold maxLen; omega) (Nat.le_refl _) ?_)
  intro w1 hown1 hgrow1
  have hb1 : Below w.heap.size w w1 := (Below.refl _ _).grown hgrow1 (Nat.le_refl _) (fun k hk => by cases hk)
  go_wp2_with fail
  go_loopw [4, 13] (fun sh i wr => ∃ (k : Nat) (xs : List Value), k ≤ l.length ∧ i = .int .i64 k ∧ sh = .int .i64 (sumG (l.take k)) ∧ wr.ownsRow w.heap.size 84 2 (.slice (some ⟨w.heap.size, 0, none⟩) l.length l.length) l.length xs ∧ xs.take (k * 2) = spCells ((placedL 0 l).take k) ∧ Below w.heap.size w wr) (fun _ i _ => l.length - (intOf i).toNat)
  case atStart => exact ⟨0, _, by omega, rfl, by simp [sumG], hown1, by simp [spCells], hb1⟩
  case round =>
    obtain ⟨k, xs, hk, rfl, rfl, hown, hx, hB⟩ := hrel
    have hbd := sumG_take_bd hn (Int.le_refl 0) hl Hr.out k
    by_cases hlt : k < l.length
    · obtain ⟨b, off, rfl, hb, c1, c2, c3⟩ := (hE.below hB).get hlt
      have hg := rising_get Hr.out hlt
      have hsz := hl.get hlt
      have hS := Lib.hid (sumG_take_succ hlt)
      have hgr : -100000 ≤ growE l[k] ∧ growE l[k] ≤ 100000 := by unfold growE; omega
      have hxl : xs.length = l.length * 2 := hown.1
      have d1 : wr.cell? ⟨w.heap.size, k * 2, none⟩ = some (xs[k * 2]'(by omega)) := by rw [hown.cellAt _ (by omega)]; exact List.getElem?_eq_getElem _
      have d2 : wr.cell? ⟨w.heap.size, k * 2 + 1, none⟩ = some (xs[k * 2 + 1]'(by omega)) := by rw [hown.cellAt _ (by omega)]; exact List.getElem?_eq_getElem _
      have f1 : wr.frozen? ⟨w.heap.size, k * 2, none⟩ = false := hown.frozenAt _
      have f2 : wr.frozen? ⟨w.heap.size, k * 2 + 1, none⟩ = false := hown.frozenAt _
      have hsz0 : w.heap.size < wr.heap.size := (hown.lt _ rfl).2
      have Hx := Lib.hid hx
      clear hE hx
      go_wp2_with fail
      refine (growth_any _ _ _ _ (by omega) (by omega) (by omega)).mono ?_
      rintro e w3 ⟨rfl, hb3⟩
      have e1 : growE { f := l[k].f, t := l[k].t, s := l[k].s } = growE l[k] := rfl
      rw [e1]
      clear e1
      go_wp2_with fail
      have ho2 := (((hown.stored (k * 2) (.int .i64 (l[k].f + sumG (l.take k)))).1.stored (k * 2 + 1) (.int .i64 (l[k].f + sumG (l.take k) + (l[k].s.size : Int)))).1).alloc (.cells #[.int .i64 l[k].f, .int .i64 l[k].t, .string l[k].s] 47)
      have hB2 := ((hB.setCell (p := ⟨w.heap.size, k * 2, none⟩) (Nat.le_refl _) (.int .i64 (l[k].f + sumG (l.take k)))).setCell (p := ⟨w.heap.size, k * 2 + 1, none⟩) (Nat.le_refl _) (.int .i64 (l[k].f + sumG (l.take k) + (l[k].s.size : Int)))).alloc (by simp; omega) (.cells #[.int .i64 l[k].f, .int .i64 l[k].t, .string l[k].s] 47)
      refine ⟨⟨k + 1, _, by omega, by go_num, by rw [hS.out], ownsRow_below ho2 hb3, ?_, hB2.trans (hb3.mono hB2.size)⟩, by simp [intOf]; omega⟩
      have hpl : k < (placedL 0 l).length := by rw [placedL_length]; exact hlt
      rw [show (k + 1) * 2 = k * 2 + 2 by omega, take_set2 _ _ _ _ (by omega), List.take_succ_eq_append_getElem hpl, spCells_append, Hx.out, placedL_get 0 l k hlt hpl, Int.zero_add]
    · have hke : k = l.length := by omega
      subst hke
      have hxl : xs.length = l.length * 2 := hown.1
      have hpl : (placedL 0 l).length = l.length := placedL_length 0 l
      rw [List.take_of_length_le (by omega), ← hpl, List.take_length] at hx
      subst hx
      go_wp2_with fail
      go_ret
      exact ⟨_, rfl, hown, hB⟩

theorem infoEdit2 : (Tryd.prog.info? 47).map (fun i => (i.zero, i.size, i.bytes)) = some (some (.agg #[.int .i64 0, .int .i64 0, .string ByteArray.empty]), 3, 32) := by kernel_rfl

theorem cell_new (X : World) (cs : Array Value) (e n i : Nat) {u : Value} (h : X.heap.size = n) (hu : cs[i]? = some u) : ((X.alloc (.cells cs e)).drew).cell? ⟨n, i, none⟩ = some u := by
  subst h
  have hn := heap_alloc_new X (.cells cs e)
  have : (X.alloc (.cells cs e)).cell? ⟨X.heap.size, i, none⟩ = cs[i]? := by
    simp only [World.cell?, hn]
    simp
  exact this.trans hu
def invertR (t : ByteArray) (l : List Ed) : List Ed := if checkE t.size l = 0 then invertL t 0 l else []

/-- an own slice and an error come back -/
def OwnsEds (w : World) (l : List Ed) (err : Int) (e : Ending) (w' : World) : Prop :=
  ∃ v, e = .returned (.tuple #[v, .int .i64 err]) ∧ w'.ownsRow w.heap.size 47 3 v l.length (edsCells l) ∧ Below w.heap.size w w'
set_option maxRecDepth 100000 in
set_option maxHeartbeats 2000000 in
theorem Invert_own (t : ByteArray) (c : Nat) (A : Option Addr) (l : List Ed) (w : World) (hl : Small l) (ht : t.size ≤ 60000) (hE : EdsV w A l) :
    Calls Tryd.prog 42 #[.string t, .slice A l.length c] w (OwnsEds w (invertR t l) (checkE t.size l)) := by
  have hl1 := hl.1
  by_cases h0 : checkE t.size l = 0
  · have hok := checkE_ok h0
    have hres : invertR t l = invertL t 0 l := by unfold invertR; rw [if_pos h0]
    rw [hres]
    clear hres
    have H0 := Lib.hid h0
    have q : (checkE t.size l != 0) = false := by simpa using h0
    clear h0
    have hr : rising t.size 0 l = true := hok.2.2.1
    have hpl := placedL_length 0 l
    have hil := invertL_length t 0 l
    obtain ⟨i0, hi0, hz0, hz1, hz2⟩ := info_parts infoEdit2
    have Hr := Lib.hid hr
    have Hpl := Lib.hid hpl
    have Hil := Lib.hid hil
    clear hr hok hpl hil
    go_enter Tryd.func42, Tryd.ntmps42
    go_wp2_with fail
    refine (Check_any t c A l w hl ht hE).mono ?_
    rintro e w0 ⟨rfl, hb0⟩
    have hs0 := hb0.size
    go_wp2_with (at_make; refine wpList_make_full _ rfl _ _ 33 rfl w.heap.size 47 i0 _ 3 Tryd.underlying33 hi0 hz0 hz1 _ _ _ _ l.length rfl rfl rfl rfl (by rw [hz2]; omega) (by unfold maxLen; omega) hs0 ?_)
    intro w1 hown1 hgrow1
    have hb1 : Below w.heap.size w w1 := hb0.grown hgrow1 hs0 (fun k hk => by cases hk)
    go_wp2_with fail
    refine (placed_own t.size c A l w1 hl (by omega) Hr.out (hE.below hb1)).mono ?_
    rintro e w2 ⟨g, rfl, hown2, hb2⟩
    have hs1 := hb1.size
    go_wp2_with fail
    have hgl : w1.heap.size ≤ g ∧ g < w2.heap.size := hown2.lt g rfl
    have hown1' := ownsRow_below hown1 hb2
    have hgd : w0.heap.size < w1.heap.size := (hown1.lt _ rfl).2
    go_loopw [22] (fun i wr => ∃ (k : Nat) (xs : List Value), k ≤ l.length ∧ i = .int .i64 k ∧ wr.ownsRow w.heap.size 47 3 (.slice (some ⟨w0.heap.size, 0, none⟩) l.length l.length) l.length xs ∧ xs.take (k * 3) = edsCells ((invertL t 0 l).take k) ∧
        wr.ownsRow w1.heap.size 84 2 (.slice (some ⟨g, 0, none⟩) l.length l.length) l.length (spCells (placedL 0 l)) ∧ Below w.heap.size w wr) (fun i _ => l.length - (intOf i).toNat)
    case atStart => exact ⟨0, _, by omega, rfl, hown1', by simp [edsCells], hown2, hb1.trans (hb2.mono hs1)⟩
    case round =>
      obtain ⟨k, xs, hk, rfl, hown, hx, hsp, hB⟩ := hrel
      by_cases hlt : k < l.length
      · have hg := rising_get Hr.out hlt
        have hkp : k < (placedL 0 l).length := by rw [Hpl.out]; exact hlt
        have hki : k < (invertL t 0 l).length := by rw [Hil.out]; exact hlt
        obtain ⟨s1, s2⟩ := sp_get hsp hkp
        have hpk := placedL_get 0 l k hlt hkp
        have hik := invertL_get t 0 l k hlt hki
        obtain ⟨b, off, x, y, s, rfl, hb, c1', c2', c3', hek⟩ := hE.getN hlt (by omega) (by omega)
        have c1 : wr.cell? ⟨b, off + k * 3, none⟩ = some (.int .i64 (x : Int)) := by rw [hB.cell hb]; exact c1'
        have c2 : wr.cell? ⟨b, off + k * 3 + 1, none⟩ = some (.int .i64 (y : Int)) := by rw [hB.cell hb]; exact c2'
        clear c1' c2' c3'
        have hz0 : w0.heap.size < wr.heap.size := (hown.lt _ rfl).2
        have m1 : ¬ wr.heap.size = w0.heap.size := by omega
        have m2 : ¬ w0.heap.size = wr.heap.size := by omega
        have m3 : ¬ b = w0.heap.size := by omega
        have m4 : ¬ w0.heap.size = b := by omega
        rw [hek] at hg hpk hik
        obtain ⟨_, g1, g2, g3⟩ := hg
        simp only at g1 g2 g3 hpk hik
        generalize (placedL 0 l)[k] = pk at hpk s1 s2
        have hik2 : (invertL t 0 l)[k] = ⟨pk.1, pk.2, t.extract x y⟩ := by rw [hik, hpk]; simp
        have Hik := Lib.hid hik2
        have Hx := Lib.hid hx
        have n1 : x ≤ y := by omega
        have n2 : y ≤ t.size := by omega
        have hxl : xs.length = l.length * 3 := hown.1
        have d1 : wr.cell? ⟨w0.heap.size, k * 3, none⟩ = some (xs[k * 3]'(by omega)) := by rw [hown.cellAt _ (by omega)]; exact List.getElem?_eq_getElem _
        have d2 : wr.cell? ⟨w0.heap.size, k * 3 + 1, none⟩ = some (xs[k * 3 + 1]'(by omega)) := by rw [hown.cellAt _ (by omega)]; exact List.getElem?_eq_getElem _
        have d3 : wr.cell? ⟨w0.heap.size, k * 3 + 2, none⟩ = some (xs[k * 3 + 2]'(by omega)) := by rw [hown.cellAt _ (by omega)]; exact List.getElem?_eq_getElem _
        have f1 : wr.frozen? ⟨w0.heap.size, k * 3, none⟩ = false := hown.frozenAt _
        have f2 : wr.frozen? ⟨w0.heap.size, k * 3 + 1, none⟩ = false := hown.frozenAt _
        have f3 : wr.frozen? ⟨w0.heap.size, k * 3 + 2, none⟩ = false := hown.frozenAt _
        clear hE hx hpk hik hek hik2
        go_wp2_with fail
        go_region_held3 (fun w' => w'.cell? ⟨wr.heap.size, 0, none⟩ = some (.int .i64 pk.1) ∧ w'.cell? ⟨wr.heap.size, 1, none⟩ = some (.int .i64 pk.2) ∧ w'.cell? ⟨b, off + k * 3, none⟩ = some (.int .i64 (x : Int)) ∧ w'.cell? ⟨b, off + k * 3 + 1, none⟩ = some (.int .i64 (y : Int)))
          (first | (go_keep; done) | (refine ⟨?_, ?_, ?_, ?_⟩ <;> first | exact cell_new _ _ _ _ _ (by simp) rfl | (go_keep; done))) (fail)
        go_wp2_with fail
        have st1 := hown.stored (k * 3) (.int .i64 pk.1)
        have st2 := st1.1.stored (k * 3 + 1) (.int .i64 pk.2)
        have st3 := st2.1.stored (k * 3 + 2) (.string (t.extract x y))
        have hgne : (Value.slice (some ⟨g, 0, none⟩) l.length l.length).ownBlock ≠ some w0.heap.size := by simp [Value.ownBlock]; omega
        have sp1 := ((hsp.kept st1.2 (.inr hgne)).kept st2.2 (.inr hgne)).kept st3.2 (.inr hgne)
        have hB2 := ((hB.setCell (p := ⟨w0.heap.size, k * 3, none⟩) hs0 (.int .i64 pk.1)).setCell (p := ⟨w0.heap.size, k * 3 + 1, none⟩) hs0 (.int .i64 pk.2)).setCell (p := ⟨w0.heap.size, k * 3 + 2, none⟩) hs0 (.string (t.extract x y))
        refine ⟨⟨k + 1, _, by omega, by go_num, (st3.1.alloc _).drew, ?_, (sp1.alloc _).drew, (hB2.alloc (by simp; omega) _).drew⟩, by simp [intOf]; omega⟩
        rw [show (k + 1) * 3 = k * 3 + 3 by omega, take_set3 _ _ _ _ _ (by omega), List.take_succ_eq_append_getElem hki, edsCells_append, Hx.out, Hik.out]
        rfl
      · have hke : k = l.length := by omega
        subst hke
        have hxl : xs.length = l.length * 3 := hown.1
        have hil : (invertL t 0 l).length = l.length := Hil.out
        rw [List.take_of_length_le (by omega), ← hil, List.take_length] at hx
        subst hx
        clear hE
        go_wp2_with fail
        go_ret2
        refine ⟨.slice (some ⟨w0.heap.size, 0, none⟩) l.length l.length, by rw [H0.out]; rfl, ?_, hB⟩
        rw [hil]
        exact hown
  · have H0 := Lib.hid h0
    have q : (checkE t.size l != 0) = true := by simpa using h0
    have hres : invertR t l = [] := by unfold invertR; rw [if_neg h0]
    rw [hres]
    clear h0 hres
    go_enter Tryd.func42, Tryd.ntmps42
    go_wp2_with fail
    refine (Check_any t c A l w hl ht hE).mono ?_
    rintro e w1 ⟨rfl, hb1⟩
    go_wp2_with fail
    go_ret2
    exact ⟨_, rfl, ⟨rfl, .inl ⟨rfl, rfl⟩⟩, hb1⟩
end Go.Proofs.YtkdnacniligjjaaDoor
