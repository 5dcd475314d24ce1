/-
  Trees: alive of layer 5's statements.; Trees: the specification's Count.; Trees: the specification's leaves and Width. (gen_r2.py)
-/
import Derived.Test.YtpjlgahbbmlngaaDoorTreeLeavesp24
import Derived.Test.YtpjlgahbbmlngaaDoorTreeLeavesp19
import Derived.Test.YtpjlgahbbmlngaaDoorTreeLeavesp21
import Derived.Test.YtpjlgahbbmlngaaDoorTreeLeavesp22
import Derived.Test.YtpjlgahbbmlngaaDoorTreeLeavesp17
namespace Go.Proofs.YtpjlgahbbmlngaaDoor
set_option linter.unusedVariables false
set_option linter.unusedSimpArgs false
open Go Go.RowKit

set_option maxRecDepth 100000
theorem sam_formed : formedB sampleNd = true := by decide
theorem sam_size : sizeN sampleNd := by unfold sizeN; decide
theorem sam_sum : sumS sampleNd := by unfold sumS; decide
theorem sam_end : endS sampleNd := by unfold endS; decide
theorem sam_tot : totN sampleNd ≤ 1000000000000 := by decide
theorem sam_text : textN sampleNd = ⟨#[102, 40, 120, 32, 41]⟩ := by decide
theorem sam_find : findR sampleNd 2 = (0, [1, 1, 0]) := by decide
theorem sam_cover : coverR sampleNd 2 4 = (0, [1]) := by decide
theorem sam_count : countN sampleNd = 9 := by decide
theorem sam_deep : deepN sampleNd = 3 := by decide
theorem sam_all : (kindW 23 (walkN [] sampleNd)).length = 2 := by decide

theorem IntsR.lit {w : World} {b e : Nat} {cs : Array Value} {fz : Nat × Nat} {l : List Int} (h : w.heap[b]? = some (.cells cs e fz)) (hc : cs.toList = l.map (Value.int .i64 ·)) : IntsR w (some ⟨b, 0, none⟩) l := by
  intro _
  refine ⟨b, rfl, ?_, fun i x hx => ?_⟩
  · rcases Nat.lt_or_ge b w.heap.size with hlt | hge
    · exact hlt
    · rw [Array.getElem?_eq_none hge] at h; cases h
  · have : w.cell? ⟨b, i, none⟩ = cs.toList[i]? := by simp [World.cell?, h]
    rw [this, hc, List.getElem?_map, hx]; rfl
theorem PossR.len {base : Nat} {O : Nat → Prop} {W : World} {v : Value} {ps : List (List Nat)} (h : PossR base O W v ps) : ∃ a c, v = .slice a ps.length c := by
  obtain ⟨vs, h1, _, _⟩ := h.vals
  exact own_slice h1

set_option maxHeartbeats 2000000 in
theorem alive5_any (w : World) (hT : Tabs w) :
    Calls Tryd.prog 22 #[] w fun e w' => e = .returned (.bool true) ∧ Below w.heap.size w w' := by
  have HT := Lib.hid hT
  clear hT
  go_enter Tryd.func22, Tryd.ntmps22
  go_wp2_with fail
  refine (sample_any w).mono ?_
  rintro e w1 ⟨⟨v1, rfl, hN1⟩, hb1⟩
  have hc1 := Text_any sampleNd v1 w1 sam_size sam_sum (HT.out.below hb1) hN1
  rw [sam_formed, sam_text] at hc1
  simp only [if_true] at hc1
  have HC1 := Lib.hid hc1
  have HB1 := Lib.hid hb1
  clear hc1 hb1 hN1
  go_wp2_with fail
  refine HC1.out.mono ?_
  rintro e w2 ⟨rfl, hb2⟩
  have HB2 := Lib.hid (HB1.out.trans (hb2.mono HB1.out.size))
  clear hb2
  go_wp2_with fail
  refine (sample_any w2).mono ?_
  rintro e w3 ⟨⟨v3, rfl, hN3⟩, hb3⟩
  have HB3 := Lib.hid (HB2.out.trans (hb3.mono HB2.out.size))
  have hc3 := Find_any sampleNd 2 v3 w3 sam_size sam_sum sam_end (HT.out.below HB3.out) hN3
  rw [sam_find] at hc3
  have HC3 := Lib.hid hc3
  clear hc3 hb3 hN3
  go_wp2_with fail
  refine HC3.out.mono ?_
  rintro e w4 ⟨v4, rfl, ho4, hb4⟩
  obtain ⟨A4, c4, rfl, hI4⟩ := IntsR.of_own ho4
  have HB4 := Lib.hid (HB3.out.trans (hb4.mono HB3.out.size))
  have HI4 := Lib.hid hI4
  clear ho4 hI4 hb4
  go_wp2_with fail
  refine (sample_any w4).mono ?_
  rintro e w5 ⟨⟨v5, rfl, hN5⟩, hb5⟩
  have HB5 := Lib.hid (HB4.out.trans (hb5.mono HB4.out.size))
  have hc5 := Cover_any sampleNd 2 4 v5 w5 sam_size sam_tot (HT.out.below HB5.out) hN5
  rw [sam_cover] at hc5
  have HC5 := Lib.hid hc5
  have HI5 := Lib.hid (HI4.out.below hb5)
  clear hc5 hb5 hN5
  go_wp2_with fail
  refine HC5.out.mono ?_
  rintro e w6 ⟨v6, rfl, ho6, hb6⟩
  obtain ⟨A6, c6, rfl, hI6⟩ := IntsR.of_own ho6
  have HB6 := Lib.hid (HB5.out.trans (hb6.mono HB5.out.size))
  have HI6 := Lib.hid hI6
  have HI46 := Lib.hid (HI5.out.below hb6)
  clear ho6 hI6 hb6
  go_wp2_with fail
  refine (sample_any w6).mono ?_
  rintro e w7 ⟨⟨v7, rfl, hN7⟩, hb7⟩
  have HB7 := Lib.hid (HB6.out.trans (hb7.mono HB6.out.size))
  have hc7 := Count_any sampleNd v7 w7 sam_size (HT.out.below HB7.out) hN7
  rw [sam_formed, sam_count, sam_deep] at hc7
  simp only [if_true] at hc7
  have HC7 := Lib.hid hc7
  have HI47 := Lib.hid (HI46.out.below hb7)
  have HI67 := Lib.hid (HI6.out.below hb7)
  clear hc7 hb7 hN7
  go_wp2_with fail
  refine HC7.out.mono ?_
  rintro e w8 ⟨rfl, hb8⟩
  have HB8 := Lib.hid (HB7.out.trans (hb8.mono HB7.out.size))
  have HI48 := Lib.hid (HI47.out.below hb8)
  have HI68 := Lib.hid (HI67.out.below hb8)
  clear hb8
  go_wp2_with fail
  refine (sample_any w8).mono ?_
  rintro e w9 ⟨⟨v9, rfl, hN9⟩, hb9⟩
  have HB9 := Lib.hid (HB8.out.trans (hb9.mono HB8.out.size))
  have hc9 := All_any sampleNd 23 v9 w9 sam_size (HT.out.below HB9.out) hN9
  rw [sam_formed] at hc9
  simp only [if_true] at hc9
  have HC9 := Lib.hid hc9
  have HI49 := Lib.hid (HI48.out.below hb9)
  have HI69 := Lib.hid (HI68.out.below hb9)
  clear hc9 hb9 hN9
  go_wp2_with fail
  refine HC9.out.mono ?_
  rintro e w10 ⟨⟨v10, rfl, hP⟩, hb10⟩
  obtain ⟨A10, c10, rfl⟩ := hP.len
  rw [sam_all]
  have HB10 := Lib.hid (HB9.out.trans (hb10.mono HB9.out.size))
  have HI4a := Lib.hid (HI49.out.below hb10)
  have HI6a := Lib.hid (HI69.out.below hb10)
  clear hP hb10
  go_wp2_with fail
  refine (sample_any w10).mono ?_
  rintro e w11 ⟨⟨v11, rfl, hN11⟩, hb11⟩
  have HB11 := Lib.hid (HB10.out.trans (hb11.mono HB10.out.size))
  have hc11 := IsFormed_any sampleNd v11 w11 sam_size (HT.out.below HB11.out) hN11
  rw [sam_formed] at hc11
  have HC11 := Lib.hid hc11
  have HI4b := Lib.hid (HI4a.out.below hb11)
  have HI6b := Lib.hid (HI6a.out.below hb11)
  clear hc11 hb11 hN11
  go_wp2_with fail
  refine HC11.out.mono ?_
  rintro e w12 ⟨rfl, hb12⟩
  have HB12 := Lib.hid (HB11.out.trans (hb12.mono HB11.out.size))
  have HI4c := Lib.hid (HI4b.out.below hb12)
  have HI6c := Lib.hid (HI6b.out.below hb12)
  clear hb12
  go_wp2_with fail
  have hWc : Below w12.heap.size w12 (w12.alloc (.cells #[.int .i64 1, .int .i64 1, .int .i64 0] 3)) := (Below.refl _ _).alloc (Nat.le_refl _) _
  have hi1 := Ints_any c4 3 A4 (some ⟨w12.heap.size, 0, none⟩) ([1, 1, 0] : List Int) ([1, 1, 0] : List Int) _ (by decide) (HI4c.out.below hWc) (IntsR.lit (heap_alloc_new w12 _) rfl)
  rw [decide_eq_true rfl] at hi1
  have HI1 := Lib.hid hi1
  have HWc := Lib.hid hWc
  clear hWc hi1
  refine HI1.out.mono ?_
  rintro e w13 ⟨rfl, hb13⟩
  have hb13' := HWc.out.trans (hb13.mono HWc.out.size)
  have HB13 := Lib.hid (HB12.out.trans (hb13'.mono HB12.out.size))
  have HI6d := Lib.hid (HI6c.out.below hb13')
  clear hb13 hb13'
  go_wp2_with fail
  have hWd : Below w13.heap.size w13 (w13.alloc (.cells #[.int .i64 1] 3)) := (Below.refl _ _).alloc (Nat.le_refl _) _
  have hi2 := Ints_any c6 1 A6 (some ⟨w13.heap.size, 0, none⟩) ([1] : List Int) ([1] : List Int) _ (by decide) (HI6d.out.below hWd) (IntsR.lit (heap_alloc_new w13 _) rfl)
  rw [decide_eq_true rfl] at hi2
  have HI2 := Lib.hid hi2
  have HWd := Lib.hid hWd
  clear hWd hi2
  refine HI2.out.mono ?_
  rintro e w14 ⟨rfl, hb14⟩
  have hb14' := HWd.out.trans (hb14.mono HWd.out.size)
  have HB14 := Lib.hid (HB13.out.trans (hb14'.mono HB13.out.size))
  clear hb14 hb14'
  go_wp2_with fail
  go_ret
  exact ⟨rfl, HB14.out⟩
end Go.Proofs.YtpjlgahbbmlngaaDoor

namespace Go.Proofs.YtpjlgahbbmlngaaDoor
set_option linter.unusedVariables false
set_option linter.unusedSimpArgs false
open Go Go.RowKit

theorem countL_snoc : ∀ (l : List Nd) (x : Nd), countL (l ++ [x]) = countL l + countN x
  | [], x => by simp [countL]
  | y :: l, x => by simp only [List.cons_append, countL, countL_snoc l x]; omega
theorem deepL_snoc : ∀ (l : List Nd) (x : Nd), deepL (l ++ [x]) = max (deepL l) (deepN x + 1)
  | [], x => by simp [deepL]
  | y :: l, x => by simp only [List.cons_append, deepL, deepL_snoc l x]; omega
theorem countL_next {l : List Nd} {k : Nat} {x : Nd} (h : l[k]? = some x) : countL (l.take (k + 1)) = countL (l.take k) + countN x := by
  rw [take_snoc h, countL_snoc]
theorem deepL_next {l : List Nd} {k : Nat} {x : Nd} (h : l[k]? = some x) : deepL (l.take (k + 1)) = max (deepL (l.take k)) (deepN x + 1) := by
  rw [take_snoc h, deepL_snoc]
theorem countL_cut : ∀ (l : List Nd) (k : Nat), countL (l.take k) ≤ countL l
  | [], k => by simp
  | y :: l, 0 => by simp [countL]
  | y :: l, k + 1 => by simp only [List.take_succ_cons, countL]; have := countL_cut l k; omega
theorem deepL_at : ∀ {l : List Nd} {k : Nat} {x : Nd}, l[k]? = some x → deepN x + 1 ≤ deepL l
  | y :: l, 0, x, h => by obtain rfl := Option.some.inj h; simp only [deepL]; omega
  | y :: l, k + 1, x, h => by have := deepL_at (l := l) (k := k) (by simpa using h); simp only [deepL]; omega
theorem countL_len : ∀ l : List Nd, l.length ≤ countL l
  | [] => Nat.zero_le _
  | .mk k t m :: l => by have := countL_len l; simp only [countL, countN, List.length_cons]; omega
theorem kids_count : ∀ n : Nd, countN n = 1 + countL n.kids
  | .mk _ _ _ => rfl
theorem kids_deep : ∀ n : Nd, deepN n = deepL n.kids
  | .mk _ _ _ => rfl

set_option maxRecDepth 100000 in
set_option maxHeartbeats 2000000 in
theorem RCount_any : ∀ (m : Nat) (n : Nd) (v : Value) (w : World), deepN n < m → countN n ≤ 10000000 → NodeV w v n →
    Calls Tryd.prog 23 #[v] w fun e w' => e = .returned (.tuple #[.int .i64 (countN n : Nat), .int .i64 (deepN n : Nat)]) ∧ Below w.heap.size w w'
  | 0, n, v, w, h, _, _ => absurd h (Nat.not_lt_zero _)
  | m + 1, n, v, w, hm, hn, hV => by
    have IH := RCount_any m
    obtain ⟨A, c, rfl, hk⟩ := hV
    obtain ⟨w0, hw0⟩ : ∃ w0, w0 = w.alloc (.cells #[.int .i64 n.kind, .int .i64 n.tok.1, .string n.tok.2, .slice A n.kids.length c] 26) := ⟨_, rfl⟩
    have hB0 : Below w.heap.size w w0 := by rw [hw0]; exact (Below.refl _ _).alloc (Nat.le_refl _) _
    have hb0 : w0.heap[w.heap.size]? = some (.cells #[.int .i64 n.kind, .int .i64 n.tok.1, .string n.tok.2, .slice A n.kids.length c] 26 (0, 0)) := by rw [hw0]; exact heap_alloc_new w _
    have p3 : w0.cell? ⟨w.heap.size, 3, none⟩ = some (.slice A n.kids.length c) := Lib.cell_of_heap hb0 3
    have hsz : w.heap.size < w0.heap.size := lt_of_cell p3
    have hK0 := hk.below hB0
    have hd := kids_deep n
    have hc := kids_count n
    rw [hd] at hm
    have hlc := countL_len n.kids
    have hct : countL n.kids ≤ 10000000 := by omega
    rw [hd, hc]
    have hl1 : n.kids.length ≤ 10000000 := by omega
    have HW := Lib.hid hw0
    have HB0 := Lib.hid hB0
    have HK := Lib.hid hK0
    have HIH := Lib.hid IH
    have HM := Lib.hid hm
    have HCT := Lib.hid hct
    generalize n.kids = l at *
    generalize n.kind = kd at *
    generalize n.tok = tk at *
    clear hn hk hb0 hw0 hB0 hK0 IH hd hc hm hct hlc
    go_enter Tryd.func23, Tryd.ntmps23
    go_wp2_with fail
    rw [← HW.out]
    go_loopw [4, 5, 6, 7, 8] (fun a d i _ _ wr => ∃ (k : Nat), k ≤ l.length ∧ i = .int .i64 k ∧ a = .int .i64 ((1 + countL (l.take k) : Nat) : Int) ∧ d = .int .i64 ((deepL (l.take k) : Nat) : Int) ∧ Below w0.heap.size w0 wr) (fun _ _ i _ _ _ => l.length - (intOf i).toNat)
    case atStart => exact ⟨0, Nat.zero_le _, rfl, by simp [countL], by simp [deepL], Below.refl _ _⟩
    case round =>
      obtain ⟨k, hk, rfl, rfl, rfl, hB⟩ := hrel
      have q3 : wr.cell? ⟨w.heap.size, 3, none⟩ = some (.slice A l.length c) := (hB.cell hsz).trans p3
      have HB := Lib.hid hB
      by_cases hlt : k < l.length
      · have hk0 : (0 : Int) ≤ (k : Int) := by omega
        have hk1 : (k : Int) < (l.length : Int) := by omega
        have hx0 : l[k]? = some l[k] := List.getElem?_eq_getElem hlt
        obtain ⟨b, o, rfl, n1⟩ := (HK.out.below hB) (by omega)
        obtain ⟨x, hx⟩ : ∃ x, x = l[k] := ⟨_, rfl⟩
        rw [← hx] at hx0
        obtain ⟨B1, d1, s1, x0, x1, x2, x3, xk⟩ := n1.get hx0
        have hcn := countL_next hx0
        have hdn := deepL_next hx0
        have hcc := countL_cut l (k + 1)
        have hdx := deepL_at hx0
        have hcl := HIH.out x (.agg #[.int .i64 x.kind, .int .i64 x.tok.1, .string x.tok.2, .slice B1 x.kids.length d1]) wr (by have := HM.out; omega) (by have := HCT.out; omega) ⟨B1, d1, rfl, xk⟩
        have hdc : deepN x < countN x := atN_small_len x
        have hdl : deepL (l.take k) ≤ countL (l.take k) := deepL_le _
        have hs1 : countL (l.take k) + countN x ≤ 10000000 := by have := HCT.out; omega
        have hcn' := Lib.hid hcn
        have hdn' := Lib.hid hdn
        have HCl := Lib.hid hcl
        clear hx hx0 n1 xk hcl hcn hdn hcc hdx hB
        generalize countN x = cx at *
        generalize deepN x = dx at *
        generalize countL (l.take k) = ck at *
        generalize deepL (l.take k) = dk at *
        have e1 : IntKind.i64.wrap (((1 + ck : Nat) : Int) + (cx : Int)) = ((1 + (ck + cx) : Nat) : Int) := by rw [IntWalk.i64_in _ (by omega)]; omega
        have e2 : IntKind.i64.wrap ((dx : Int) + 1) = ((dx + 1 : Nat) : Int) := by rw [IntWalk.i64_in _ (by omega)]; omega
        have e3 : IntKind.i64.wrap ((k : Int) + 1) = ((k + 1 : Nat) : Int) := by rw [IntWalk.i64_in _ (by omega)]; omega
        go_wp2_with fail
        refine HCl.out.mono ?_
        rintro e w2 ⟨rfl, hb2⟩
        have HB2 := Lib.hid (HB.out.trans (hb2.mono HB.out.size))
        clear hb2
        go_wp2_with fail
        have hmx : max ((dk : Nat) : Int) ((dx : Int) + 1) = ((max dk (dx + 1) : Nat) : Int) := by omega
        exact ⟨⟨k + 1, by omega, by go_num, by rw [hcn'.out]; go_num, by rw [hdn'.out, hmx], HB2.out⟩, by simp [intOf]; omega⟩
      · have hke : k = l.length := by omega
        subst hke
        go_wp2_with fail
        rw [List.take_length]
        refine bodyPost_ret (by simp [results, Tryd.f23, go_sem]; try rfl) rfl ?_
        exact ⟨rfl, HB0.out.trans (HB.out.mono HB0.out.size)⟩
end Go.Proofs.YtpjlgahbbmlngaaDoor

namespace Go.Proofs.YtpjlgahbbmlngaaDoor
set_option linter.unusedVariables false
set_option linter.unusedSimpArgs false
open Go Go.RowKit

-- a sum over the leaves; what a leaf's kids are does not matter
mutual
def sumF (g : Tok → Nat) : Nd → Nat
  | .mk k t l => if k = 1 then g t else sumFL g l
def sumFL (g : Tok → Nat) : List Nd → Nat
  | [] => 0
  | n :: l => sumF g n + sumFL g l
end
theorem sumFL_snoc (g : Tok → Nat) : ∀ (l : List Nd) (x : Nd), sumFL g (l ++ [x]) = sumFL g l + sumF g x
  | [], x => by simp [sumFL]
  | y :: l, x => by simp only [List.cons_append, sumFL, sumFL_snoc g l x]; omega
theorem sumFL_next {g : Tok → Nat} {l : List Nd} {k : Nat} {x : Nd} (h : l[k]? = some x) : sumFL g (l.take (k + 1)) = sumFL g (l.take k) + sumF g x := by
  rw [take_snoc h, sumFL_snoc]
theorem sumFL_cut (g : Tok → Nat) : ∀ (l : List Nd) (k : Nat), sumFL g (l.take k) ≤ sumFL g l
  | [], k => by simp
  | y :: l, 0 => by simp [sumFL]
  | y :: l, k + 1 => by simp only [List.take_succ_cons, sumFL]; have := sumFL_cut g l k; omega
theorem sumF_kids (g : Tok → Nat) : ∀ n : Nd, sumF g n = if n.kind = 1 then g n.tok else sumFL g n.kids
  | .mk _ _ _ => rfl

set_option maxRecDepth 100000 in
set_option maxHeartbeats 2000000 in
theorem RLeaves_any : ∀ (m : Nat) (n : Nd) (v : Value) (w : World), deepN n < m → countN n ≤ 10000000 → sumF (fun _ => 1) n ≤ 1000000000000 → NodeV w v n →
    Calls Tryd.prog 56 #[v] w fun e w' => e = .returned (.int .i64 (sumF (fun _ => 1) n : Nat)) ∧ Below w.heap.size w w'
  | 0, n, v, w, h, _, _, _ => absurd h (Nat.not_lt_zero _)
  | m + 1, n, v, w, hm, hn, hS, hV => by
    have IH := RLeaves_any m
    obtain ⟨A, c, rfl, hk⟩ := hV
    obtain ⟨w0, hw0⟩ : ∃ w0, w0 = w.alloc (.cells #[.int .i64 n.kind, .int .i64 n.tok.1, .string n.tok.2, .slice A n.kids.length c] 26) := ⟨_, rfl⟩
    have hB0 : Below w.heap.size w w0 := by rw [hw0]; exact (Below.refl _ _).alloc (Nat.le_refl _) _
    have hb0 : w0.heap[w.heap.size]? = some (.cells #[.int .i64 n.kind, .int .i64 n.tok.1, .string n.tok.2, .slice A n.kids.length c] 26 (0, 0)) := by rw [hw0]; exact heap_alloc_new w _
    have p0 : w0.cell? ⟨w.heap.size, 0, none⟩ = some (.int .i64 n.kind) := Lib.cell_of_heap hb0 0
    have p2 : w0.cell? ⟨w.heap.size, 2, none⟩ = some (.string n.tok.2) := Lib.cell_of_heap hb0 2
    have p3 : w0.cell? ⟨w.heap.size, 3, none⟩ = some (.slice A n.kids.length c) := Lib.cell_of_heap hb0 3
    have hsz : w.heap.size < w0.heap.size := lt_of_cell p3
    have hK0 := hk.below hB0
    have hd := kids_deep n
    have hc := kids_count n
    have hs := sumF_kids (fun _ => 1) n
    rw [hd] at hm
    have hlc := countL_len n.kids
    have hct : countL n.kids ≤ 10000000 := by omega
    have hl1 : n.kids.length ≤ 10000000 := by omega
    have HW := Lib.hid hw0
    have HB0 := Lib.hid hB0
    have HK := Lib.hid hK0
    have HIH := Lib.hid IH
    have HM := Lib.hid hm
    have HCT := Lib.hid hct
    by_cases h1 : n.kind = 1
    · rw [if_pos h1] at hs
      rw [hs]
      rw [h1] at p0 HW
      clear hn hk hb0 hw0 hB0 hK0 IH hd hc hm hct hlc hS hs HIH HM HCT HK
      generalize n.kids = l at *
      generalize n.tok = tk at *
      go_enter Tryd.func56, Tryd.ntmps56
      rw [h1]
      go_wp2_with fail
      go_ret
      exact ⟨rfl, by rw [← HW.out]; exact HB0.out⟩
    · rw [if_neg h1] at hs
      rw [hs] at hS
      rw [hs]
      have q1 : (n.kind == 1) = false := by simpa using h1
      have q2 : decide (n.kind = 1) = false := by simpa using h1
      have HS := Lib.hid hS
      generalize n.kids = l at *
      generalize n.kind = kd at *
      generalize n.tok = tk at *
      clear hn hk hb0 hw0 hB0 hK0 IH hd hc hm hct hlc hS hs p2
      go_enter Tryd.func56, Tryd.ntmps56
      go_wp2_with fail
      rw [← HW.out]
      go_loopw [3, 4] (fun a i wr => ∃ (k : Nat), k ≤ l.length ∧ i = .int .i64 k ∧ a = .int .i64 ((sumFL (fun _ => 1) (l.take k) : Nat) : Int) ∧ Below w0.heap.size w0 wr) (fun _ i _ => l.length - (intOf i).toNat)
      case atStart => exact ⟨0, Nat.zero_le _, rfl, by simp [sumFL], Below.refl _ _⟩
      case round =>
        obtain ⟨k, hk, rfl, rfl, hB⟩ := hrel
        have q3 : wr.cell? ⟨w.heap.size, 3, none⟩ = some (.slice A l.length c) := (hB.cell hsz).trans p3
        have HB := Lib.hid hB
        by_cases hlt : k < l.length
        · have hk0 : (0 : Int) ≤ (k : Int) := by omega
          have hk1 : (k : Int) < (l.length : Int) := by omega
          have hx0 : l[k]? = some l[k] := List.getElem?_eq_getElem hlt
          obtain ⟨b, o, rfl, n1⟩ := (HK.out.below hB) (by omega)
          obtain ⟨x, hx⟩ : ∃ x, x = l[k] := ⟨_, rfl⟩
          rw [← hx] at hx0
          obtain ⟨B1, d1, s1, x0, x1, x2, x3, xk⟩ := n1.get hx0
          have hcn := sumFL_next (g := (fun _ => 1)) hx0
          have hcc := sumFL_cut (fun _ => 1) l (k + 1)
          have hxc := countL_next hx0
          have hxd := countL_cut l (k + 1)
          have hdx := deepL_at hx0
          have hcl := HIH.out x (.agg #[.int .i64 x.kind, .int .i64 x.tok.1, .string x.tok.2, .slice B1 x.kids.length d1]) wr (by have := HM.out; omega) (by have := HCT.out; omega) (by have := HS.out; omega) ⟨B1, d1, rfl, xk⟩
          have hs1 : sumFL (fun _ => 1) (l.take k) + sumF (fun _ => 1) x ≤ 1000000000000 := by have := HS.out; omega
          have hcn' := Lib.hid hcn
          have HCl := Lib.hid hcl
          clear hx hx0 n1 xk hcl hcn hcc hxc hxd hdx hB
          generalize sumF (fun _ => 1) x = cx at *
          generalize sumFL (fun _ => 1) (l.take k) = ck at *
          have e1 : IntKind.i64.wrap ((ck : Int) + (cx : Int)) = ((ck + cx : Nat) : Int) := by rw [IntWalk.i64_in _ (by omega)]; omega
          have e3 : IntKind.i64.wrap ((k : Int) + 1) = ((k + 1 : Nat) : Int) := by rw [IntWalk.i64_in _ (by omega)]; omega
          go_wp2_with fail
          refine HCl.out.mono ?_
          rintro e w2 ⟨rfl, hb2⟩
          have HB2 := Lib.hid (HB.out.trans (hb2.mono HB.out.size))
          clear hb2
          go_wp2_with fail
          exact ⟨⟨k + 1, by omega, by go_num, by rw [hcn'.out]; go_num, HB2.out⟩, by simp [intOf]; omega⟩
        · have hke : k = l.length := by omega
          subst hke
          go_wp2_with fail
          rw [List.take_length]
          go_ret
          exact ⟨rfl, HB0.out.trans (HB.out.mono HB0.out.size)⟩

set_option maxRecDepth 100000 in
set_option maxHeartbeats 2000000 in
theorem RWidth_any : ∀ (m : Nat) (n : Nd) (v : Value) (w : World), deepN n < m → countN n ≤ 10000000 → sumF (fun t => t.2.size) n ≤ 1000000000000 → NodeV w v n →
    Calls Tryd.prog 25 #[v] w fun e w' => e = .returned (.int .i64 (sumF (fun t => t.2.size) n : Nat)) ∧ Below w.heap.size w w'
  | 0, n, v, w, h, _, _, _ => absurd h (Nat.not_lt_zero _)
  | m + 1, n, v, w, hm, hn, hS, hV => by
    have IH := RWidth_any m
    obtain ⟨A, c, rfl, hk⟩ := hV
    obtain ⟨w0, hw0⟩ : ∃ w0, w0 = w.alloc (.cells #[.int .i64 n.kind, .int .i64 n.tok.1, .string n.tok.2, .slice A n.kids.length c] 26) := ⟨_, rfl⟩
    have hB0 : Below w.heap.size w w0 := by rw [hw0]; exact (Below.refl _ _).alloc (Nat.le_refl _) _
    have hb0 : w0.heap[w.heap.size]? = some (.cells #[.int .i64 n.kind, .int .i64 n.tok.1, .string n.tok.2, .slice A n.kids.length c] 26 (0, 0)) := by rw [hw0]; exact heap_alloc_new w _
    have p0 : w0.cell? ⟨w.heap.size, 0, none⟩ = some (.int .i64 n.kind) := Lib.cell_of_heap hb0 0
    have p2 : w0.cell? ⟨w.heap.size, 2, none⟩ = some (.string n.tok.2) := Lib.cell_of_heap hb0 2
    have p3 : w0.cell? ⟨w.heap.size, 3, none⟩ = some (.slice A n.kids.length c) := Lib.cell_of_heap hb0 3
    have hsz : w.heap.size < w0.heap.size := lt_of_cell p3
    have hK0 := hk.below hB0
    have hd := kids_deep n
    have hc := kids_count n
    have hs := sumF_kids (fun t => t.2.size) n
    rw [hd] at hm
    have hlc := countL_len n.kids
    have hct : countL n.kids ≤ 10000000 := by omega
    have hl1 : n.kids.length ≤ 10000000 := by omega
    have HW := Lib.hid hw0
    have HB0 := Lib.hid hB0
    have HK := Lib.hid hK0
    have HIH := Lib.hid IH
    have HM := Lib.hid hm
    have HCT := Lib.hid hct
    by_cases h1 : n.kind = 1
    · rw [if_pos h1] at hs
      rw [hs]
      rw [h1] at p0 HW
      clear hn hk hb0 hw0 hB0 hK0 IH hd hc hm hct hlc hS hs HIH HM HCT HK
      generalize n.kids = l at *
      generalize n.tok = tk at *
      go_enter Tryd.func25, Tryd.ntmps25
      rw [h1]
      go_wp2_with fail
      go_ret
      exact ⟨rfl, by rw [← HW.out]; exact HB0.out⟩
    · rw [if_neg h1] at hs
      rw [hs] at hS
      rw [hs]
      have q1 : (n.kind == 1) = false := by simpa using h1
      have q2 : decide (n.kind = 1) = false := by simpa using h1
      have HS := Lib.hid hS
      generalize n.kids = l at *
      generalize n.kind = kd at *
      generalize n.tok = tk at *
      clear hn hk hb0 hw0 hB0 hK0 IH hd hc hm hct hlc hS hs p2
      go_enter Tryd.func25, Tryd.ntmps25
      go_wp2_with fail
      rw [← HW.out]
      go_loopw [3, 4] (fun a i wr => ∃ (k : Nat), k ≤ l.length ∧ i = .int .i64 k ∧ a = .int .i64 ((sumFL (fun t => t.2.size) (l.take k) : Nat) : Int) ∧ Below w0.heap.size w0 wr) (fun _ i _ => l.length - (intOf i).toNat)
      case atStart => exact ⟨0, Nat.zero_le _, rfl, by simp [sumFL], Below.refl _ _⟩
      case round =>
        obtain ⟨k, hk, rfl, rfl, hB⟩ := hrel
        have q3 : wr.cell? ⟨w.heap.size, 3, none⟩ = some (.slice A l.length c) := (hB.cell hsz).trans p3
        have HB := Lib.hid hB
        by_cases hlt : k < l.length
        · have hk0 : (0 : Int) ≤ (k : Int) := by omega
          have hk1 : (k : Int) < (l.length : Int) := by omega
          have hx0 : l[k]? = some l[k] := List.getElem?_eq_getElem hlt
          obtain ⟨b, o, rfl, n1⟩ := (HK.out.below hB) (by omega)
          obtain ⟨x, hx⟩ : ∃ x, x = l[k] := ⟨_, rfl⟩
          rw [← hx] at hx0
          obtain ⟨B1, d1, s1, x0, x1, x2, x3, xk⟩ := n1.get hx0
          have hcn := sumFL_next (g := (fun t => t.2.size)) hx0
          have hcc := sumFL_cut (fun t => t.2.size) l (k + 1)
          have hxc := countL_next hx0
          have hxd := countL_cut l (k + 1)
          have hdx := deepL_at hx0
          have hcl := HIH.out x (.agg #[.int .i64 x.kind, .int .i64 x.tok.1, .string x.tok.2, .slice B1 x.kids.length d1]) wr (by have := HM.out; omega) (by have := HCT.out; omega) (by have := HS.out; omega) ⟨B1, d1, rfl, xk⟩
          have hs1 : sumFL (fun t => t.2.size) (l.take k) + sumF (fun t => t.2.size) x ≤ 1000000000000 := by have := HS.out; omega
          have hcn' := Lib.hid hcn
          have HCl := Lib.hid hcl
          clear hx hx0 n1 xk hcl hcn hcc hxc hxd hdx hB
          generalize sumF (fun t => t.2.size) x = cx at *
          generalize sumFL (fun t => t.2.size) (l.take k) = ck at *
          have e1 : IntKind.i64.wrap ((ck : Int) + (cx : Int)) = ((ck + cx : Nat) : Int) := by rw [IntWalk.i64_in _ (by omega)]; omega
          have e3 : IntKind.i64.wrap ((k : Int) + 1) = ((k + 1 : Nat) : Int) := by rw [IntWalk.i64_in _ (by omega)]; omega
          go_wp2_with fail
          refine HCl.out.mono ?_
          rintro e w2 ⟨rfl, hb2⟩
          have HB2 := Lib.hid (HB.out.trans (hb2.mono HB.out.size))
          clear hb2
          go_wp2_with fail
          exact ⟨⟨k + 1, by omega, by go_num, by rw [hcn'.out]; go_num, HB2.out⟩, by simp [intOf]; omega⟩
        · have hke : k = l.length := by omega
          subst hke
          go_wp2_with fail
          rw [List.take_length]
          go_ret
          exact ⟨rfl, HB0.out.trans (HB.out.mono HB0.out.size)⟩
end Go.Proofs.YtpjlgahbbmlngaaDoor
