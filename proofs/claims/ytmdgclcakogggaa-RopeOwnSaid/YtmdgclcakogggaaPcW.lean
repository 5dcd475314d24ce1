/-
  Contracts of write and slice on trees of pieces.
-/
import Derived.Test.YtmdgclcakogggaaPcT
import Derived.Test.YtmdgclcakogggaaApp2
namespace Go.Proofs.Ytmdgclcakogggaa
set_option linter.unusedVariables false
set_option linter.unusedSimpArgs false
open Go.RowKit

theorem Bld.belowTop {B b : Nat} {l : List UInt8} {w w' : World} (h : Bld B b l w) (hb : Below w.heap.size w w') : Bld B b l w' := by
  have key : ∀ p, Lib.BuilderAt 90 5 B b p (Lib.byteCells l) w → Lib.BuilderAt 90 5 B b p (Lib.byteCells l) w' := by
    rintro p ⟨hB, v, hbk, hown, hne⟩
    refine ⟨hB, v, (hb.block b (lt_of hbk)).trans hbk, ⟨hown.1, ?_⟩, hne⟩
    rcases hown.2 with h | ⟨g, cap, cur, hv, hg, hh, h1, h2, h3, h4⟩
    · exact .inl h
    · exact .inr ⟨g, cap, cur, hv, hg, (hb.block g (lt_of hh)).trans hh, h1, h2, h3, h4⟩
  rcases h with h | h
  · exact .inl (key _ h)
  · exact .inr (key _ h)

set_option maxRecDepth 100000 in
set_option maxHeartbeats 2000000 in
theorem write_any : ∀ (t : Pc) (v : Value) (a z : Int) (B b : Nat) (pre : List UInt8) (w : World), t.size ≤ 60000 → t.good → -200000 ≤ a → a ≤ 200000 → -200000 ≤ z → z ≤ 200000 → pre.length + t.size ≤ 1000000 → PcAt w B v t → Bld B b pre w → B ≤ w.heap.size →
    Calls Try.prog 54 #[v, .pointer (some ⟨b, 0, none⟩), .int .i64 a, .int .i64 z] w fun e w' => e = .returned (.tuple #[]) ∧ Bld B b (pre ++ cutI t.text a z) w' ∧ Below B w w' := by
  intro t
  induction t with
  | nil =>
    intro v a z B b pre w hsz hgd ha1 ha2 hz1 hz2 hpre hP hB hBw
    go_enter Try.func54, Try.ntmps54
    go_wp2_with fail
    refine (sums_any v .nil w (hP.keep hBw (fun _ _ => rfl))).mono ?_
    rintro e w1 ⟨rfl, hb1⟩
    simp only [sumsV, Pc.size, Pc.feeds, Pc.leaves, Pc.height]
    go_wp2_with fail
    refine bodyPost_ret (results_none rfl _ _ _) rfl ⟨rfl, ?_, hb1.mono hBw⟩
    rw [show cutI Pc.nil.text a z = [] by simp [cutI, Pc.text], List.append_nil]
    exact hB.belowTop hb1
  | leaf s =>
    intro v a z B b pre w hsz hgd ha1 ha2 hz1 hz2 hpre hP hB hBw
    have hP1 := hP.keep hBw (fun _ _ => rfl) (w' := w)
    have hsz2 : s.size ≤ 60000 := hsz
    have hpre2 : pre.length + s.size ≤ 1000000 := hpre
    obtain ⟨g, rfl, hg, hh⟩ := hP
    by_cases hemp : max a 0 < min z (s.size : Int)
    · have hcut : cutI (Pc.leaf s).text a z = sub s (max a 0).toNat (min z (s.size : Int)).toNat := by
        rw [← cutI_sub, Int.toNat_of_nonneg (by omega), Int.toNat_of_nonneg (by omega)]
        show cutI (byt s) a z = _
        rw [show (s.size : Int) = ((byt s).length : Nat) by rw [byt_length], cutI_min, cutI_max]
      obtain ⟨x, hx⟩ : ∃ x : Nat, max a 0 = (x : Int) := ⟨(max a 0).toNat, by omega⟩
      obtain ⟨y, hy⟩ : ∃ y : Nat, min z (s.size : Int) = (y : Int) := ⟨(min z (s.size : Int)).toNat, by omega⟩
      rw [hx, hy, Int.toNat_natCast, Int.toNat_natCast] at hcut
      have n1 : x < y := by omega
      have n3 : x ≤ y := by omega
      have n2 : y ≤ s.size := by omega
      have Hcut := Lib.hid hcut
      clear hcut hsz hpre hemp
      go_enter Try.func54, Try.ntmps54
      go_wp2_with fail
      refine (sums_any _ (.leaf s) w hP1).mono ?_
      rintro e w1 ⟨rfl, hb1⟩
      simp only [sumsV, Pc.size]
      have hh1 := (hb1.block g (lt_of hh)).trans hh
      have c0 : w1.cell? ⟨g, 0, none⟩ = some (.string s) := cell_of hh1 0
      go_wp2_with fail
      refine (isLeaf_leaf s _ w1 (hP1.belowTop hb1)).mono ?_
      rintro e w2 ⟨rfl, rfl⟩
      go_wp2_with fail
      have hB1 := hB.belowTop hb1
      have hsub := sub_le s x y
      refine (WriteString_any B b pre _ _ hB1 (by rw [ByteArray.size_extract]; omega) (by have := hb1.size; omega)).mono ?_
      rintro e w2 ⟨rfl, hB2, hb2, hk2⟩
      go_wp2_with fail
      refine bodyPost_ret (results_none rfl _ _ _) rfl ⟨rfl, ?_, (hb1.mono hBw).trans hb2⟩
      rw [Hcut.out]
      exact hB2
    · have hcut : cutI (Pc.leaf s).text a z = [] := by
        show cutI (byt s) a z = _
        rw [← cutI_max, ← cutI_min]
        exact cutI_none _ _ _ (by rw [byt_length]; omega)
      have Hcut := Lib.hid hcut
      clear hcut hsz hpre
      go_enter Try.func54, Try.ntmps54
      go_wp2_with fail
      refine (sums_any _ (.leaf s) w hP1).mono ?_
      rintro e w1 ⟨rfl, hb1⟩
      simp only [sumsV, Pc.size]
      go_wp2_with fail
      refine bodyPost_ret (results_none rfl _ _ _) rfl ⟨rfl, ?_, hb1.mono hBw⟩
      rw [Hcut.out, List.append_nil]
      exact hB.belowTop hb1
  | node l r ihl ihr =>
    intro v a z B b pre w hsz hgd ha1 ha2 hz1 hz2 hpre hP hB hBw
    have hP1 := hP.keep hBw (fun _ _ => rfl) (w' := w)
    obtain ⟨g, vl, vr, rfl, hg, hh, hl, hr, hol, hor⟩ := hP
    have hsz2 : l.size + r.size ≤ 60000 := hsz
    have hpre2 : pre.length + (l.size + r.size) ≤ 1000000 := hpre
    have hle := (Pc.node l r).size_text
    by_cases hemp : max a 0 < min z ((l.size + r.size : Nat) : Int)
    · have hcut : cutI (Pc.node l r).text a z = cutI l.text (max a 0) (min z ((l.size + r.size : Nat) : Int)) ++ cutI r.text (max a 0 - (l.size : Int)) (min z ((l.size + r.size : Nat) : Int) - (l.size : Int)) := by
        rw [← cutI_max, ← cutI_min, hle]
        show cutI (l.text ++ r.text) _ (min z ((l.size + r.size : Nat) : Int)) = _
        rw [cutI_append _ _ _ _ (by omega), l.size_text]
      have Hcut := Lib.hid hcut
      obtain ⟨bl, sl, vll, vlr, rfl, hbl, hhl⟩ := hl.open_ (by rintro rfl; exact hol)
      have ihl' := ihl
      have hcl := cutI_le l.text (max a 0) (min z ((l.size + r.size : Nat) : Int))
      rw [l.size_text] at hcl
      have IHL := Lib.hid ihl
      have IHR := Lib.hid ihr
      clear hcut hsz hpre hle ihl ihr ihl'
      go_enter Try.func54, Try.ntmps54
      go_wp2_with fail
      refine (sums_any _ (.node l r) w hP1).mono ?_
      rintro e w1 ⟨rfl, hb1⟩
      simp only [sumsV, Pc.size]
      have hh1 := (hb1.block g (lt_of hh)).trans hh
      have hhl1 := (hb1.block bl (lt_of hhl)).trans hhl
      have c1 : w1.cell? ⟨g, 1, none⟩ = some (.pointer (some ⟨bl, 0, none⟩)) := cell_of hh1 1
      have c2 : w1.cell? ⟨g, 2, none⟩ = some vr := cell_of hh1 2
      have d3 : w1.cell? ⟨bl, 3, none⟩ = some (.int .i64 (l.size : Int)) := cell_of hhl1 3
      have hz1' := hb1.size
      go_wp2_with fail
      refine (isLeaf_node l r _ w1 (hP1.belowTop hb1)).mono ?_
      rintro e w2 ⟨rfl, rfl⟩
      go_wp2_with fail
      refine (IHL.out _ _ _ B b pre _ (by omega) (.inr hol) (by omega) (by omega) (by omega) (by omega) (by omega) (hl.below (hb1.mono hBw)) (hB.belowTop hb1) (by omega)).mono ?_
      rintro e w3 ⟨rfl, hB3, hb3⟩
      have hz3' := hb3.size
      have hh3 := (hb3.block g hg).trans hh1
      have c23 : w3.cell? ⟨g, 2, none⟩ = some vr := cell_of hh3 2
      go_wp2_with fail
      refine (IHR.out _ _ _ B b _ _ (by omega) (.inr hor) (by omega) (by omega) (by omega) (by omega) (by rw [List.length_append]; have := hcl; simp only [Int.natCast_add] at this; omega) ((hr.below (hb1.mono hBw)).below hb3) hB3 (by omega)).mono ?_
      rintro e w4 ⟨rfl, hB4, hb4⟩
      go_wp2_with fail
      go_end0
      refine ⟨rfl, ?_, ((hb1.mono hBw).trans hb3).trans hb4⟩
      rw [Hcut.out]
      simpa using hB4
    · have hcut : cutI (Pc.node l r).text a z = [] := by
        rw [← cutI_max, ← cutI_min, hle]
        exact cutI_none _ _ _ (by simp only [Pc.size]; omega)
      have Hcut := Lib.hid hcut
      clear hcut hsz hpre hle ihl ihr
      go_enter Try.func54, Try.ntmps54
      go_wp2_with fail
      refine (sums_any _ (.node l r) w hP1).mono ?_
      rintro e w1 ⟨rfl, hb1⟩
      simp only [sumsV, Pc.size]
      go_wp2_with fail
      refine bodyPost_ret (results_none rfl _ _ _) rfl ⟨rfl, ?_, hb1.mono hBw⟩
      rw [Hcut.out, List.append_nil]
      exact hB.belowTop hb1
end Go.Proofs.Ytmdgclcakogggaa
