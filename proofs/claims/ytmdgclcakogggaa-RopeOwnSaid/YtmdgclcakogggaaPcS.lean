/-
  The contract of split: a tree of the bytes before an offset and one of the rest.
-/
import Derived.Test.YtmdgclcakogggaaPcK
namespace Go.Proofs.Ytmdgclcakogggaa
set_option linter.unusedVariables false
set_option linter.unusedSimpArgs false
open Go.RowKit

/-- two trees come back, of the two sides of offset k -/
def Splits (w : World) (t : Pc) (k : Nat) (e : Ending) (w' : World) : Prop :=
  ∃ ta tb oa ob, e = .returned (.tuple #[.pointer oa, .pointer ob]) ∧ PcAt w' w'.heap.size (.pointer oa) ta ∧ PcAt w' w'.heap.size (.pointer ob) tb ∧ Below w.heap.size w w' ∧ ta.good ∧ tb.good ∧
    ta.text = t.text.take k ∧ tb.text = t.text.drop k ∧ ta.leaves + tb.leaves ≤ t.leaves + 1

theorem one_kept {w w' : World} {b : Nat} {v1 : Value} (hb : Below w.heap.size w w') (hlt : b < w.heap.size) (h1 : w.cell? ⟨b, 0, none⟩ = some v1) :
    Below w.heap.size w w' ∧ w'.cell? ⟨b, 0, none⟩ = some v1 := ⟨hb, ((bcell hb).1 b 0 hlt).trans h1⟩
theorem three_kept {w w' : World} {b c : Nat} {v1 v2 v3 : Value} (hb : Below w.heap.size w w') (hlt : b < w.heap.size) (hlc : c < w.heap.size) (h1 : w.cell? ⟨b, 1, none⟩ = some v1) (h2 : w.cell? ⟨b, 2, none⟩ = some v2) (h3 : w.cell? ⟨c, 3, none⟩ = some v3) :
    Below w.heap.size w w' ∧ w'.cell? ⟨b, 1, none⟩ = some v1 ∧ w'.cell? ⟨b, 2, none⟩ = some v2 ∧ w'.cell? ⟨c, 3, none⟩ = some v3 :=
  ⟨hb, ((bcell hb).1 b 1 hlt).trans h1, ((bcell hb).1 b 2 hlt).trans h2, ((bcell hb).1 c 3 hlc).trans h3⟩
theorem byt_takeS (s : ByteArray) (k : Nat) : byt (s.extract 0 k) = (byt s).take k := (cutI_sub s 0 k).symm.trans (by simp [cutI])
theorem byt_dropS (s : ByteArray) (k : Nat) : byt (s.extract k s.size) = (byt s).drop k := by
  refine (cutI_sub s k s.size).symm.trans ?_
  simp only [cutI, Int.toNat_natCast]
  rw [List.take_of_length_le (by rw [byt_length]; exact Nat.le_refl _)]
theorem pcOf_leaves (s : ByteArray) : (pcOf s).leaves ≤ 1 := by
  unfold pcOf
  split
  · exact Nat.zero_le _
  · exact Nat.le_refl _

set_option maxRecDepth 100000 in
set_option maxHeartbeats 2000000 in
theorem split_any : ∀ (t : Pc) (o : Option Addr) (k : Nat) (w : World), t.good → k ≤ t.size → t.size ≤ 60000 → PcAt w w.heap.size (.pointer o) t →
    Calls Try.prog 27 #[.pointer o, .int .i64 (k : Int)] w (Splits w t k) := by
  intro t
  induction t with
  | nil =>
    intro o k w hg hk hsz ht
    obtain rfl : k = 0 := by simp only [Pc.size] at hk; omega
    have HT := Lib.hid ht
    clear ht
    go_enter Try.func27, Try.ntmps27
    go_wp2_with fail
    go_ret2
    exact ⟨.nil, .nil, none, o, rfl, rfl, HT.out, Below.refl _ _, .inl rfl, .inl rfl, rfl, rfl, by simp only [Pc.leaves]; omega⟩
  | leaf s =>
    intro o k w hg hk hsz ht
    have hok : (Pc.leaf s).ok := by rcases hg with h | h; cases h; exact h
    have hk2 : k ≤ s.size := hk
    have hs2 : s.size ≤ 60000 := hsz
    have hT := ht
    obtain ⟨b, e1, hb, hh⟩ := ht
    obtain rfl : o = some ⟨b, 0, none⟩ := by injection e1
    have hlen : (Pc.leaf s).text.length = s.size := (Pc.leaf s).size_text
    rcases Nat.eq_zero_or_pos k with rfl | hk0
    · have HT := Lib.hid hT
      clear hT
      go_enter Try.func27, Try.ntmps27
      go_wp2_with fail
      go_ret2
      exact ⟨.nil, .leaf s, none, _, rfl, rfl, HT.out, Below.refl _ _, .inl rfl, .inr hok, rfl, rfl, by simp only [Pc.leaves]; omega⟩
    have q0 : decide ((k : Int) = 0) = false := by simp; omega
    have c3 : w.cell? ⟨b, 3, none⟩ = some (.int .i64 (s.size : Int)) := cell_of hh 3
    rcases Nat.lt_or_ge k s.size with hlt | hge
    · have q1 : decide ((k : Int) = (s.size : Int)) = false := by simp; omega
      have c0 : w.cell? ⟨b, 0, none⟩ = some (.string s) := cell_of hh 0
      have HT := Lib.hid hT
      have hA := pcOf_text (s.extract 0 k)
      have hB := pcOf_text (s.extract k s.size)
      have Hh := Lib.hid hh
      have n1 : k ≤ s.size := hk2
      have n2 : 0 ≤ k := by omega
      have z1 : (s.extract 0 k).size ≤ 60000 := by rw [ByteArray.size_extract]; omega
      have z2 : (s.extract k s.size).size ≤ 60000 := by rw [ByteArray.size_extract]; omega
      have n3 : s.size ≤ s.size := Nat.le_refl _
      clear hT hh hlen hk hsz
      go_enter Try.func27, Try.ntmps27
      go_wp2_with fail
      refine (isLeaf_leaf s _ w HT.out).mono ?_
      rintro e w2 ⟨rfl, rfl⟩
      go_wp2_with fail
      go_region_held3 (fun w' => Below w.heap.size w w' ∧ w'.cell? ⟨b, 0, none⟩ = some (.string s))
        (exact one_kept (by repeat (first | with_reducible exact Below.refl _ _ | with_reducible assumption | with_reducible refine Below.drew ?_ | with_reducible refine below_drewN ?_ _ | with_reducible refine below_call ?_ (Nat.le_refl _) hbA | with_reducible refine below_call ?_ (Nat.le_refl _) hbB)) hb c0)
        ((first
         | (go_at_call 19
            with_reducible refine (leafP_any (s.extract 0 k) _ z1).mono ?_
            rintro e wA ⟨⟨oA, rfl, hpA⟩, hbA⟩)
         | (go_at_call 19
            with_reducible refine (leafP_any (s.extract k s.size) _ z2).mono ?_
            rintro e wB ⟨⟨oB, rfl, hpB⟩, hbB⟩)))
      all_goals
        go_wp2_with fail
        go_ret2
        exact ⟨pcOf (s.extract 0 k), pcOf (s.extract k s.size), oA, oB, rfl, hpA.belowTop (by repeat (first | with_reducible exact Below.refl _ _ | with_reducible assumption | with_reducible refine Below.drew ?_ | with_reducible refine below_drewN ?_ _ | with_reducible refine below_call ?_ (Nat.le_refl _) hbB)), hpB.belowTop (by repeat (first | with_reducible exact Below.refl _ _ | with_reducible assumption | with_reducible refine Below.drew ?_ | with_reducible refine below_drewN ?_ _ | with_reducible refine below_call ?_ (Nat.le_refl _) hbA)), (by repeat (first | with_reducible exact Below.refl _ _ | with_reducible assumption | with_reducible refine Below.drew ?_ | with_reducible refine below_drewN ?_ _ | with_reducible refine below_call ?_ (Nat.le_refl _) hbA | with_reducible refine below_call ?_ (Nat.le_refl _) hbB)), pcOf_good _, pcOf_good _, hA.trans (byt_takeS s k), hB.trans (byt_dropS s k), by have := pcOf_leaves (s.extract 0 k); have := pcOf_leaves (s.extract k s.size); simp only [Pc.leaves]; omega⟩
    · obtain rfl : k = s.size := by omega
      have q1 : decide ((s.size : Int) = (s.size : Int)) = true := by simp
      have HT := Lib.hid hT
      have Hlen := Lib.hid hlen
      clear hT hlen hge
      go_enter Try.func27, Try.ntmps27
      go_wp2_with fail
      go_ret2
      exact ⟨.leaf s, .nil, _, none, rfl, HT.out, rfl, Below.refl _ _, .inr hok, .inl rfl, (List.take_of_length_le (by rw [Hlen.out]; exact Nat.le_refl _)).symm, (List.drop_of_length_le (by rw [Hlen.out]; exact Nat.le_refl _)).symm, by simp only [Pc.leaves]; omega⟩
  | node l r ihl ihr =>
    intro o k w hg hk hsz ht
    have hok : (Pc.node l r).ok := by rcases hg with h | h; cases h; exact h
    have hk2 : k ≤ l.size + r.size := hk
    have hs2 : l.size + r.size ≤ 60000 := hsz
    have hT := ht
    have hlen : (Pc.node l r).text.length = l.size + r.size := (Pc.node l r).size_text
    have hll : l.text.length = l.size := l.size_text
    obtain ⟨b, vl, vr, e1, hb, hh, hl, hr, hol, hor⟩ := ht
    obtain rfl : o = some ⟨b, 0, none⟩ := by injection e1
    rcases Nat.eq_zero_or_pos k with rfl | hk0
    · have HT := Lib.hid hT
      clear hT hl hr hh
      go_enter Try.func27, Try.ntmps27
      go_wp2_with fail
      go_ret2
      exact ⟨.nil, .node l r, none, _, rfl, rfl, HT.out, Below.refl _ _, .inl rfl, .inr hok, rfl, rfl, by simp only [Pc.leaves]; omega⟩
    have q0 : decide ((k : Int) = 0) = false := by simp; omega
    have c3 : w.cell? ⟨b, 3, none⟩ = some (.int .i64 ((l.size + r.size : Nat) : Int)) := cell_of hh 3
    rcases Nat.lt_or_ge k (l.size + r.size) with hlt | hge
    · have q1 : decide ((k : Int) = ((l.size + r.size : Nat) : Int)) = false := by simp; omega
      obtain ⟨bl, rfl, _, hbl, ll3, _, _, _⟩ := hl.totals (by rintro rfl; exact hol)
      obtain ⟨br, rfl, _, hbr, _, _, _, _⟩ := hr.totals (by rintro rfl; exact hor)
      have k1 : w.cell? ⟨b, 1, none⟩ = some (.pointer (some ⟨bl, 0, none⟩)) := cell_of hh 1
      have k2 : w.cell? ⟨b, 2, none⟩ = some (.pointer (some ⟨br, 0, none⟩)) := cell_of hh 2
      have HT := Lib.hid hT
      have HL := Lib.hid hl
      have HR := Lib.hid hr
      have IHL := Lib.hid ihl
      have IHR := Lib.hid ihr
      have Hlen := Lib.hid hlen
      clear hT hl hr hh ihl ihr hlen hk hsz
      rcases Nat.lt_or_ge k l.size with hkl | hkl
      · have q2 : decide ((k : Int) < (l.size : Int)) = true := by simp; omega
        go_enter Try.func27, Try.ntmps27
        go_wp2_with fail
        refine (isLeaf_node l r _ w HT.out).mono ?_
        rintro e w2 ⟨rfl, rfl⟩
        go_wp2_with fail
        refine (IHL.out (some ⟨bl, 0, none⟩) k _ (good_of hol) (by omega) (by omega) HL.out).mono ?_
        rintro e w1 ⟨ta, tb, oa, ob, rfl, hpa, hpb, hb1, hga, hgb, hta, htb, hlv⟩
        have k2' : w1.cell? ⟨b, 2, none⟩ = some (.pointer (some ⟨br, 0, none⟩)) := ((bcell hb1).1 b 2 hb).trans k2
        have ztb : tb.size ≤ l.size := by rw [size_of_text htb, List.length_drop]; omega
        go_wp2_with fail
        refine (join_any _ tb r ob (some ⟨br, 0, none⟩) _ (Nat.lt_succ_self _) hgb (good_of hor) (by omega) hpb (HR.out.belowTop hb1)).mono ?_
        rintro e w2 ⟨t2, ⟨o2, rfl, hp2, hb2⟩, hg2, ht2, hl2⟩
        go_wp2_with fail
        go_ret2
        exact ⟨ta, t2, oa, o2, rfl, hpa.belowTop hb2, hp2, hb1.trans (hb2.mono hb1.size), hga, hg2, by rw [hta]; simp only [Pc.text]; rw [List.take_append_of_le_length (by omega)], by rw [ht2, htb]; simp only [Pc.text]; rw [List.drop_append_of_le_length (by omega)], by rw [hl2]; simp only [Pc.leaves]; omega⟩
      · have q2 : decide ((k : Int) < (l.size : Int)) = false := by simp; omega
        have s1 : IntKind.i64.wrap ((k : Int) - (l.size : Int)) = ((k - l.size : Nat) : Int) := by rw [Int.ofNat_sub hkl]; exact IntWalk.i64_in _ (by omega)
        go_enter Try.func27, Try.ntmps27
        go_wp2_with fail
        refine (isLeaf_node l r _ w HT.out).mono ?_
        rintro e w2 ⟨rfl, rfl⟩
        go_wp2_with fail
        go_region_held3 (fun w' => Below w.heap.size w w' ∧ w'.cell? ⟨b, 1, none⟩ = some (.pointer (some ⟨bl, 0, none⟩)) ∧ w'.cell? ⟨b, 2, none⟩ = some (.pointer (some ⟨br, 0, none⟩)) ∧ w'.cell? ⟨bl, 3, none⟩ = some (.int .i64 (l.size : Int)))
          (exact three_kept (by repeat (first | with_reducible exact Below.refl _ _ | with_reducible assumption | with_reducible refine Below.drew ?_ | with_reducible refine below_drewN ?_ _ | with_reducible refine below_call ?_ (Nat.le_refl _) hb1)) hb hbl k1 k2 ll3)
          ((go_at_call 27
            with_reducible refine (IHR.out (some ⟨br, 0, none⟩) (k - l.size) _ (good_of hor) ?_ ?_ ?_).mono ?_
            · omega
            · omega
            · exact HR.out.belowTop (by repeat (first | with_reducible exact Below.refl _ _ | with_reducible assumption | with_reducible refine Below.drew ?_ | with_reducible refine below_drewN ?_ _))
            rintro e w1 ⟨ta, tb, oa, ob, rfl, hpa, hpb, hb1, hga, hgb, hta, htb, hlv⟩))
        all_goals
          have hbw : Below w.heap.size w w1 := (by repeat (first | with_reducible exact Below.refl _ _ | with_reducible assumption | with_reducible refine Below.drew ?_ | with_reducible refine below_drewN ?_ _ | with_reducible refine below_call ?_ (Nat.le_refl _) hb1))
          have k1' : w1.cell? ⟨b, 1, none⟩ = some (.pointer (some ⟨bl, 0, none⟩)) := ((bcell hbw).1 b 1 hb).trans k1
          have zta : ta.size ≤ r.size := by rw [size_of_text hta, List.length_take, Pc.size_text]; omega
          go_wp2_with fail
          refine (join_any _ l ta (some ⟨bl, 0, none⟩) oa _ (Nat.lt_succ_self _) (good_of hol) hga (by omega) (HL.out.belowTop hbw) hpa).mono ?_
          rintro e w2 ⟨t2, ⟨o2, rfl, hp2, hb2⟩, hg2, ht2, hl2⟩
          go_wp2_with fail
          go_ret2
          exact ⟨t2, tb, o2, ob, rfl, hp2, hpb.belowTop hb2, hbw.trans (hb2.mono hbw.size), hg2, hgb, by rw [ht2, hta]; simp only [Pc.text]; rw [List.take_append, hll, List.take_of_length_le (show l.text.length ≤ k by omega)], by rw [htb]; simp only [Pc.text]; rw [List.drop_append, hll, List.drop_of_length_le (show l.text.length ≤ k by omega), List.nil_append], by rw [hl2]; simp only [Pc.leaves]; omega⟩
    · obtain rfl : k = l.size + r.size := by omega
      have q1 : decide (((l.size + r.size : Nat) : Int) = ((l.size + r.size : Nat) : Int)) = true := by simp
      have HT := Lib.hid hT
      have Hlen := Lib.hid hlen
      clear hT hlen hge hl hr hh
      go_enter Try.func27, Try.ntmps27
      go_wp2_with fail
      go_ret2
      exact ⟨.node l r, .nil, _, none, rfl, HT.out, rfl, Below.refl _ _, .inr hok, .inl rfl, (List.take_of_length_le (by rw [Hlen.out]; exact Nat.le_refl _)).symm, (List.drop_of_length_le (by rw [Hlen.out]; exact Nat.le_refl _)).symm, by simp only [Pc.leaves]; omega⟩
end Go.Proofs.Ytmdgclcakogggaa
