/-
  The contract of the specification's Char.
-/
import Derived.Test.YtmbpjjehnfjdiaaDoorPlMath
import Derived.Test.YtmbpjjehnfjdiaaDoorMem
import Derived.Test.YtmbpjjehnfjdiaaDoorApp2
import Derived.Test.YtmbpjjehnfjdiaaDoorRows
namespace Go.Proofs.YtmbpjjehnfjdiaaDoor
set_option linter.unusedVariables false
set_option linter.unusedSimpArgs false
open Go.RowKit
open Go.Lib (decodeN)

theorem decN_bad (m b0 b1 b2 b3 : Nat) (h : b0 < 194 ∨ 244 < b0) : (decodeN m b0 b1 b2 b3).2 = 1 ∧ (decodeN m b0 b1 b2 b3).1 < 65536 := by
  unfold decodeN
  repeat' split
  all_goals (refine ⟨?_, ?_⟩ <;> dsimp only <;> omega)
theorem decN_1 (m b0 b1 b2 b3 : Nat) (h : 194 ≤ b0 ∧ b0 ≤ 223) : decodeN m b0 b1 b2 b3 = if 1 < m ∧ 128 ≤ b1 ∧ b1 ≤ 191 then (64 * (b0 - 192) + (b1 - 128), 2) else (65533, 1) := by
  unfold decodeN
  by_cases hc : 1 < m ∧ 128 ≤ b1 ∧ b1 ≤ 191
  · have e : b0 % 32 * 64 + b1 % 64 = 64 * (b0 - 192) + (b1 - 128) := by omega
    rw [if_pos hc, if_neg (by omega), if_pos (by omega), e, if_pos (by omega)]
  · rw [if_neg hc, if_neg (by omega), if_neg (by omega), if_neg (by omega), if_neg (by omega)]
theorem decN_2 (m b0 b1 b2 b3 : Nat) (h : 224 ≤ b0 ∧ b0 ≤ 239) : decodeN m b0 b1 b2 b3 = if 2 < m ∧ (128 ≤ b1 ∧ b1 ≤ 191) ∧ (128 ≤ b2 ∧ b2 ≤ 191) then
    (if 64 * (64 * (b0 - 224) + (b1 - 128)) + (b2 - 128) < 2048 ∨ (55296 ≤ 64 * (64 * (b0 - 224) + (b1 - 128)) + (b2 - 128) ∧ 64 * (64 * (b0 - 224) + (b1 - 128)) + (b2 - 128) ≤ 57343) then (65533, 1) else (64 * (64 * (b0 - 224) + (b1 - 128)) + (b2 - 128), 3)) else (65533, 1) := by
  unfold decodeN
  by_cases hc : 2 < m ∧ (128 ≤ b1 ∧ b1 ≤ 191) ∧ (128 ≤ b2 ∧ b2 ≤ 191)
  · have e : b0 % 16 * 4096 + b1 % 64 * 64 + b2 % 64 = 64 * (64 * (b0 - 224) + (b1 - 128)) + (b2 - 128) := by omega
    rw [if_pos hc, if_neg (by omega), if_neg (by omega), if_pos (by omega), e]
    generalize 64 * (64 * (b0 - 224) + (b1 - 128)) + (b2 - 128) = k at *
    have hk : k < 65536 := by omega
    by_cases h2 : k < 2048 ∨ (55296 ≤ k ∧ k ≤ 57343)
    · rw [if_pos h2, if_neg (by omega)]
    · rw [if_neg h2, if_pos (by omega)]
  · rw [if_neg hc, if_neg (by omega), if_neg (by omega), if_neg (by omega), if_neg (by omega)]
theorem decN_3 (m b0 b1 b2 b3 : Nat) (h : 240 ≤ b0 ∧ b0 ≤ 244) : decodeN m b0 b1 b2 b3 = if 3 < m ∧ (128 ≤ b1 ∧ b1 ≤ 191) ∧ (128 ≤ b2 ∧ b2 ≤ 191) ∧ (128 ≤ b3 ∧ b3 ≤ 191) then
    (if 64 * (64 * (64 * (b0 - 240) + (b1 - 128)) + (b2 - 128)) + (b3 - 128) < 65536 ∨ 1114111 < 64 * (64 * (64 * (b0 - 240) + (b1 - 128)) + (b2 - 128)) + (b3 - 128) then (65533, 1) else (64 * (64 * (64 * (b0 - 240) + (b1 - 128)) + (b2 - 128)) + (b3 - 128), 4)) else (65533, 1) := by
  unfold decodeN
  by_cases hc : 3 < m ∧ (128 ≤ b1 ∧ b1 ≤ 191) ∧ (128 ≤ b2 ∧ b2 ≤ 191) ∧ (128 ≤ b3 ∧ b3 ≤ 191)
  · have e : b0 % 8 * 262144 + b1 % 64 * 4096 + b2 % 64 * 64 + b3 % 64 = 64 * (64 * (64 * (b0 - 240) + (b1 - 128)) + (b2 - 128)) + (b3 - 128) := by omega
    rw [if_pos hc, if_neg (by omega), if_neg (by omega), if_neg (by omega), if_pos (by omega), e]
    generalize 64 * (64 * (64 * (b0 - 240) + (b1 - 128)) + (b2 - 128)) + (b3 - 128) = k at *
    by_cases h2 : k < 65536 ∨ 1114111 < k
    · rw [if_pos h2, if_neg (by omega)]
    · rw [if_neg h2, if_pos (by omega)]
  · rw [if_neg hc, if_neg (by omega), if_neg (by omega), if_neg (by omega), if_neg (by omega)]

/-- of the model's decoding: bytes and columns -/
def chOf (d : Nat × Nat) : Nat × Nat := (d.2, if 65536 ≤ d.1 then 2 else 1)
theorem chOf_s (s : ByteArray) (i : Nat) : chOf (decodeN (s.size - i) (bt s i) (bt s (i + 1)) (bt s (i + 2)) (bt s (i + 3))) = (dn s i, dw s i) := by unfold chOf dn dw; rw [dec_eq]
theorem ret_tup2 {a b c d : Int} (h1 : a = c) (h2 : b = d) : Ending.returned (.tuple #[.int .i64 a, .int .i64 b]) = .returned (.tuple #[.int .i64 c, .int .i64 d]) := by rw [h1, h2]

set_option maxRecDepth 200000 in
set_option maxHeartbeats 4000000 in
theorem Char_any (s : ByteArray) (i : Nat) (w : World) (hs : s.size ≤ 60000) (hi : i < s.size) :
    Calls Tryd.prog 36 #[.string s, .int .i64 (i : Int)] w fun e w' => e = .returned (.tuple #[.int .i64 (dn s i : Int), .int .i64 (dw s i : Int)]) ∧ w' = w := by
  have hch := chOf_s s i
  obtain ⟨x0, hx0⟩ : ∃ x, (s[i]'hi).toNat = x := ⟨_, rfl⟩
  have hb0 : bt s i = x0 := by rw [bt_eq s i hi]; exact hx0
  have hx0l : x0 < 256 := by rw [← hx0]; exact (s[i]'hi).toNat_lt
  rw [hb0] at hch
  obtain ⟨D, hD⟩ : ∃ D, D = dn s i := ⟨_, rfl⟩
  obtain ⟨V, hV⟩ : ∃ V, V = dw s i := ⟨_, rfl⟩
  rw [← hD, ← hV] at hch
  rw [← hD, ← hV]
  obtain ⟨x1, hx1⟩ : ∃ x, bt s (i + 1) = x := ⟨_, rfl⟩
  obtain ⟨x2, hx2⟩ : ∃ x, bt s (i + 2) = x := ⟨_, rfl⟩
  obtain ⟨x3, hx3⟩ : ∃ x, bt s (i + 3) = x := ⟨_, rfl⟩
  have hx1l : x1 < 256 := by rw [← hx1]; exact (s.get! (i + 1)).toNat_lt
  have hx2l : x2 < 256 := by rw [← hx2]; exact (s.get! (i + 2)).toNat_lt
  have hx3l : x3 < 256 := by rw [← hx3]; exact (s.get! (i + 3)).toNat_lt
  rw [hx1, hx2, hx3] at hch
  have hg1 : ∀ h : i + 1 < s.size, (s[i + 1]'h).toNat = x1 := fun h => by rw [← bt_eq s (i + 1) h]; exact hx1
  have hg2 : ∀ h : i + 2 < s.size, (s[i + 2]'h).toNat = x2 := fun h => by rw [← bt_eq s (i + 2) h]; exact hx2
  have hg3 : ∀ h : i + 3 < s.size, (s[i + 3]'h).toNat = x3 := fun h => by rw [← bt_eq s (i + 3) h]; exact hx3
  clear hD hV hb0 hx1 hx2 hx3
  have Hch := Lib.hid hch
  have Hg1 := Lib.hid hg1
  have Hg2 := Lib.hid hg2
  have Hg3 := Lib.hid hg3
  clear hch hg1 hg2 hg3
  by_cases h1 : 194 ≤ x0 ∧ x0 ≤ 223
  · skip
    have Hd := Lib.hid (decN_1 (s.size - i) x0 x1 x2 x3 h1)
    have d1 : decide ((194 : Int) ≤ (x0 : Int)) = true := decide_eq_true (by omega)
    have d2 : decide ((x0 : Int) ≤ 223) = true := decide_eq_true (by omega)
    have w0 : IntKind.i64.wrap ((x0 : Int) - 192) = ((x0 - 192 : Nat) : Int) := by rw [IntWalk.i64_in _ (by omega)]; omega
    have HX := Lib.hid h1
    clear h1
    by_cases hr : i + 1 < s.size
    · have hr0 : ¬ ((s.size : Int) ≤ (i : Int) + 1) := by omega
      have r1 : i + 1 < s.size := by omega
      have y1 := Hg1.out r1
      go_enter Tryd.func36, Tryd.ntmps36
      go_wp2_with fail
      go_loopw [9, 10] (fun c z wr => ∃ (j code : Nat), wr = w ∧ z = .int .i64 (j : Int) ∧ c = .int .i64 (code : Int) ∧ ((j = 1 ∧ code = (x0 - 192)) ∨ (j = 2 ∧ code = (64 * (x0 - 192) + (x1 - 128)) ∧ (128 ≤ x1 ∧ x1 ≤ 191)))) (fun _ z _ => 2 - (intOf z).toNat)
      case atStart => exact ⟨1, _, rfl, rfl, rfl, .inl ⟨rfl, rfl⟩⟩
      case round =>
        obtain ⟨j, code, rfl, rfl, rfl, hj⟩ := hrel
        have hX := HX.out
        rcases hj with ⟨rfl, hcd⟩ | ⟨rfl, hcd, hc1⟩
        · have hcb : code ≤ 2000000 := by omega
          by_cases hq : 128 ≤ x1 ∧ x1 ≤ 191
          · have e1 : decide ((x1 : Int) < 128) = false := decide_eq_false (by omega)
            have e2 : decide ((191 : Int) < (x1 : Int)) = false := decide_eq_false (by omega)
            have w1 : IntKind.i64.wrap (64 * (code : Int) + (x1 : Int) - 128) = ((64 * code + (x1 - 128) : Nat) : Int) := by rw [IntWalk.i64_in _ (by omega)]; omega
            have Hc := Lib.hid (And.intro hcd hq)
            clear hcd hq hX
            go_wp2_with fail
            exact ⟨⟨2, 64 * code + (x1 - 128), trivial, by go_num, by go_num, .inr ⟨rfl, by rw [Hc.out.1], Hc.out.2⟩⟩, by simp [intOf]⟩
          · have hres : chOf (decodeN (s.size - i) x0 x1 x2 x3) = (1, 1) := by rw [Hd.out, if_neg (by omega)]; rfl
            have hDV := Hch.out.symm.trans hres
            have HDV := Lib.hid hDV
            have hsel : decide ((x1 : Int) < 128) = true ∨ (decide ((x1 : Int) < 128) = false ∧ decide ((191 : Int) < (x1 : Int)) = true) := by simp only [decide_eq_true_eq, decide_eq_false_iff_not]; omega
            clear hcd hq hX hres hDV
            rcases hsel with e1 | ⟨e1, e2⟩
            all_goals
              go_wp2_with fail
              go_ret2
              exact ⟨ret_tup2 (by have := congrArg Prod.fst HDV.out; simp at this; omega) (by have := congrArg Prod.snd HDV.out; simp at this; omega), rfl⟩
        · have hcb : code ≤ 2000000 := by omega
          have hres : chOf (decodeN (s.size - i) x0 x1 x2 x3) = (2, 1) := by rw [Hd.out, if_pos (by omega)]; unfold chOf; simp only; rw [if_neg (by omega)]
          have HDV := Lib.hid (Hch.out.symm.trans hres)
          have e1 : decide ((code : Int) < 128) = false := decide_eq_false (by omega)
          have e2 : decide ((1114111 : Int) < (code : Int)) = false := decide_eq_false (by omega)
          have e3 : decide ((55296 : Int) ≤ (code : Int)) = false := decide_eq_false (by omega)
          have e4 : decide ((65536 : Int) ≤ (code : Int)) = false := decide_eq_false (by omega)
          clear hcd hX hres hc1 hcb
          go_wp2_with fail
          go_ret2
          exact ⟨ret_tup2 (by have := congrArg Prod.fst HDV.out; simp at this; omega) (by have := congrArg Prod.snd HDV.out; simp at this; omega), rfl⟩
    · have hres : chOf (decodeN (s.size - i) x0 x1 x2 x3) = (1, 1) := by rw [Hd.out, if_neg (by omega)]; rfl
      have HDV := Lib.hid (Hch.out.symm.trans hres)
      have hr0 : ((s.size : Int) ≤ (i : Int) + 1) := by omega
      clear hres hr
      go_enter Tryd.func36, Tryd.ntmps36
      go_wp2_with fail
      go_ret2
      exact ⟨ret_tup2 (by have := congrArg Prod.fst HDV.out; simp at this; omega) (by have := congrArg Prod.snd HDV.out; simp at this; omega), rfl⟩
  by_cases h2 : 224 ≤ x0 ∧ x0 ≤ 239
  · skip
    have Hd := Lib.hid (decN_2 (s.size - i) x0 x1 x2 x3 h2)
    have d1 : decide ((194 : Int) ≤ (x0 : Int)) = true := decide_eq_true (by omega)
    have d2 : decide ((x0 : Int) ≤ 223) = false := decide_eq_false (by omega)
    have d3 : decide ((224 : Int) ≤ (x0 : Int)) = true := decide_eq_true (by omega)
    have d4 : decide ((x0 : Int) ≤ 239) = true := decide_eq_true (by omega)
    have w0 : IntKind.i64.wrap ((x0 : Int) - 224) = ((x0 - 224 : Nat) : Int) := by rw [IntWalk.i64_in _ (by omega)]; omega
    have HX := Lib.hid h2
    clear h2
    by_cases hr : i + 2 < s.size
    · have hr0 : ¬ ((s.size : Int) ≤ (i : Int) + 2) := by omega
      have r1 : i + 1 < s.size := by omega
      have y1 := Hg1.out r1
      have r2 : i + 2 < s.size := by omega
      have y2 := Hg2.out r2
      go_enter Tryd.func36, Tryd.ntmps36
      go_wp2_with fail
      go_loopw [9, 10] (fun c z wr => ∃ (j code : Nat), wr = w ∧ z = .int .i64 (j : Int) ∧ c = .int .i64 (code : Int) ∧ ((j = 1 ∧ code = (x0 - 224)) ∨ (j = 2 ∧ code = (64 * (x0 - 224) + (x1 - 128)) ∧ (128 ≤ x1 ∧ x1 ≤ 191)) ∨ (j = 3 ∧ code = (64 * (64 * (x0 - 224) + (x1 - 128)) + (x2 - 128)) ∧ (128 ≤ x1 ∧ x1 ≤ 191) ∧ (128 ≤ x2 ∧ x2 ≤ 191)))) (fun _ z _ => 3 - (intOf z).toNat)
      case atStart => exact ⟨1, _, rfl, rfl, rfl, .inl ⟨rfl, rfl⟩⟩
      case round =>
        obtain ⟨j, code, rfl, rfl, rfl, hj⟩ := hrel
        have hX := HX.out
        rcases hj with ⟨rfl, hcd⟩ | ⟨rfl, hcd, hc1⟩ | ⟨rfl, hcd, hc1, hc2⟩
        · have hcb : code ≤ 2000000 := by omega
          by_cases hq : 128 ≤ x1 ∧ x1 ≤ 191
          · have e1 : decide ((x1 : Int) < 128) = false := decide_eq_false (by omega)
            have e2 : decide ((191 : Int) < (x1 : Int)) = false := decide_eq_false (by omega)
            have w1 : IntKind.i64.wrap (64 * (code : Int) + (x1 : Int) - 128) = ((64 * code + (x1 - 128) : Nat) : Int) := by rw [IntWalk.i64_in _ (by omega)]; omega
            have Hc := Lib.hid (And.intro hcd hq)
            clear hcd hq hX
            go_wp2_with fail
            exact ⟨⟨2, 64 * code + (x1 - 128), trivial, by go_num, by go_num, .inr (.inl ⟨rfl, by rw [Hc.out.1], Hc.out.2⟩)⟩, by simp [intOf]⟩
          · have hres : chOf (decodeN (s.size - i) x0 x1 x2 x3) = (1, 1) := by rw [Hd.out, if_neg (by omega)]; rfl
            have hDV := Hch.out.symm.trans hres
            have HDV := Lib.hid hDV
            have hsel : decide ((x1 : Int) < 128) = true ∨ (decide ((x1 : Int) < 128) = false ∧ decide ((191 : Int) < (x1 : Int)) = true) := by simp only [decide_eq_true_eq, decide_eq_false_iff_not]; omega
            clear hcd hq hX hres hDV
            rcases hsel with e1 | ⟨e1, e2⟩
            all_goals
              go_wp2_with fail
              go_ret2
              exact ⟨ret_tup2 (by have := congrArg Prod.fst HDV.out; simp at this; omega) (by have := congrArg Prod.snd HDV.out; simp at this; omega), rfl⟩
        · have hcb : code ≤ 2000000 := by omega
          by_cases hq : 128 ≤ x2 ∧ x2 ≤ 191
          · have e1 : decide ((x2 : Int) < 128) = false := decide_eq_false (by omega)
            have e2 : decide ((191 : Int) < (x2 : Int)) = false := decide_eq_false (by omega)
            have w1 : IntKind.i64.wrap (64 * (code : Int) + (x2 : Int) - 128) = ((64 * code + (x2 - 128) : Nat) : Int) := by rw [IntWalk.i64_in _ (by omega)]; omega
            have Hc := Lib.hid (And.intro hcd hq)
            have Hk1 := Lib.hid hc1
            clear hcd hq hX hc1
            go_wp2_with fail
            exact ⟨⟨3, 64 * code + (x2 - 128), trivial, by go_num, by go_num, .inr (.inr ⟨rfl, by rw [Hc.out.1], Hk1.out, Hc.out.2⟩)⟩, by simp [intOf]⟩
          · have hres : chOf (decodeN (s.size - i) x0 x1 x2 x3) = (1, 1) := by rw [Hd.out, if_neg (by omega)]; rfl
            have hDV := Hch.out.symm.trans hres
            have HDV := Lib.hid hDV
            have hsel : decide ((x2 : Int) < 128) = true ∨ (decide ((x2 : Int) < 128) = false ∧ decide ((191 : Int) < (x2 : Int)) = true) := by simp only [decide_eq_true_eq, decide_eq_false_iff_not]; omega
            clear hcd hq hX hres hDV hc1
            rcases hsel with e1 | ⟨e1, e2⟩
            all_goals
              go_wp2_with fail
              go_ret2
              exact ⟨ret_tup2 (by have := congrArg Prod.fst HDV.out; simp at this; omega) (by have := congrArg Prod.snd HDV.out; simp at this; omega), rfl⟩
        · have hcb : code ≤ 2000000 := by omega
          by_cases hbad : code < 2048 ∨ (55296 ≤ code ∧ code ≤ 57343)
          · have hres : chOf (decodeN (s.size - i) x0 x1 x2 x3) = (1, 1) := by rw [Hd.out, if_pos (by omega), if_pos (by omega)]; rfl
            have HDV := Lib.hid (Hch.out.symm.trans hres)
            have hsel : decide ((code : Int) < 2048) = true ∨ (decide ((code : Int) < 2048) = false ∧ decide ((1114111 : Int) < (code : Int)) = false ∧ decide ((55296 : Int) ≤ (code : Int)) = true ∧ decide ((code : Int) ≤ 57343) = true) := by simp only [decide_eq_true_eq, decide_eq_false_iff_not]; omega
            clear hcd hX hres hbad hcb hc1 hc2
            rcases hsel with e1 | ⟨e1, e2, e3, e4⟩
            all_goals
              go_wp2_with fail
              go_ret2
              exact ⟨ret_tup2 (by have := congrArg Prod.fst HDV.out; simp at this; omega) (by have := congrArg Prod.snd HDV.out; simp at this; omega), rfl⟩
          · have hres : chOf (decodeN (s.size - i) x0 x1 x2 x3) = (3, 1) := by rw [Hd.out, if_pos (by omega), if_neg (by omega)]; unfold chOf; simp only; rw [if_neg (by omega)]
            have HDV := Lib.hid (Hch.out.symm.trans hres)
            have e1 : decide ((code : Int) < 2048) = false := decide_eq_false (by omega)
            have e2 : decide ((1114111 : Int) < (code : Int)) = false := decide_eq_false (by omega)
            have e5 : decide ((65536 : Int) ≤ (code : Int)) = false := decide_eq_false (by omega)
            have hsel : decide ((55296 : Int) ≤ (code : Int)) = false ∨ (decide ((55296 : Int) ≤ (code : Int)) = true ∧ decide ((code : Int) ≤ 57343) = false) := by simp only [decide_eq_true_eq, decide_eq_false_iff_not]; omega
            clear hcd hX hres hbad hcb hc1 hc2
            rcases hsel with e3 | ⟨e3, e4⟩
            all_goals
              go_wp2_with fail
              go_ret2
              exact ⟨ret_tup2 (by have := congrArg Prod.fst HDV.out; simp at this; omega) (by have := congrArg Prod.snd HDV.out; simp at this; omega), rfl⟩
    · have hres : chOf (decodeN (s.size - i) x0 x1 x2 x3) = (1, 1) := by rw [Hd.out, if_neg (by omega)]; rfl
      have HDV := Lib.hid (Hch.out.symm.trans hres)
      have hr0 : ((s.size : Int) ≤ (i : Int) + 2) := by omega
      clear hres hr
      go_enter Tryd.func36, Tryd.ntmps36
      go_wp2_with fail
      go_ret2
      exact ⟨ret_tup2 (by have := congrArg Prod.fst HDV.out; simp at this; omega) (by have := congrArg Prod.snd HDV.out; simp at this; omega), rfl⟩
  by_cases h3 : 240 ≤ x0 ∧ x0 ≤ 244
  · skip
    have Hd := Lib.hid (decN_3 (s.size - i) x0 x1 x2 x3 h3)
    have d1 : decide ((194 : Int) ≤ (x0 : Int)) = true := decide_eq_true (by omega)
    have d2 : decide ((x0 : Int) ≤ 223) = false := decide_eq_false (by omega)
    have d3 : decide ((224 : Int) ≤ (x0 : Int)) = true := decide_eq_true (by omega)
    have d4 : decide ((x0 : Int) ≤ 239) = false := decide_eq_false (by omega)
    have d5 : decide ((240 : Int) ≤ (x0 : Int)) = true := decide_eq_true (by omega)
    have d6 : decide ((x0 : Int) ≤ 244) = true := decide_eq_true (by omega)
    have w0 : IntKind.i64.wrap ((x0 : Int) - 240) = ((x0 - 240 : Nat) : Int) := by rw [IntWalk.i64_in _ (by omega)]; omega
    have HX := Lib.hid h3
    clear h3
    by_cases hr : i + 3 < s.size
    · have hr0 : ¬ ((s.size : Int) ≤ (i : Int) + 3) := by omega
      have r1 : i + 1 < s.size := by omega
      have y1 := Hg1.out r1
      have r2 : i + 2 < s.size := by omega
      have y2 := Hg2.out r2
      have r3 : i + 3 < s.size := by omega
      have y3 := Hg3.out r3
      go_enter Tryd.func36, Tryd.ntmps36
      go_wp2_with fail
      go_loopw [9, 10] (fun c z wr => ∃ (j code : Nat), wr = w ∧ z = .int .i64 (j : Int) ∧ c = .int .i64 (code : Int) ∧ ((j = 1 ∧ code = (x0 - 240)) ∨ (j = 2 ∧ code = (64 * (x0 - 240) + (x1 - 128)) ∧ (128 ≤ x1 ∧ x1 ≤ 191)) ∨ (j = 3 ∧ code = (64 * (64 * (x0 - 240) + (x1 - 128)) + (x2 - 128)) ∧ (128 ≤ x1 ∧ x1 ≤ 191) ∧ (128 ≤ x2 ∧ x2 ≤ 191)) ∨ (j = 4 ∧ code = (64 * (64 * (64 * (x0 - 240) + (x1 - 128)) + (x2 - 128)) + (x3 - 128)) ∧ (128 ≤ x1 ∧ x1 ≤ 191) ∧ (128 ≤ x2 ∧ x2 ≤ 191) ∧ (128 ≤ x3 ∧ x3 ≤ 191)))) (fun _ z _ => 4 - (intOf z).toNat)
      case atStart => exact ⟨1, _, rfl, rfl, rfl, .inl ⟨rfl, rfl⟩⟩
      case round =>
        obtain ⟨j, code, rfl, rfl, rfl, hj⟩ := hrel
        have hX := HX.out
        rcases hj with ⟨rfl, hcd⟩ | ⟨rfl, hcd, hc1⟩ | ⟨rfl, hcd, hc1, hc2⟩ | ⟨rfl, hcd, hc1, hc2, hc3⟩
        · have hcb : code ≤ 2000000 := by omega
          by_cases hq : 128 ≤ x1 ∧ x1 ≤ 191
          · have e1 : decide ((x1 : Int) < 128) = false := decide_eq_false (by omega)
            have e2 : decide ((191 : Int) < (x1 : Int)) = false := decide_eq_false (by omega)
            have w1 : IntKind.i64.wrap (64 * (code : Int) + (x1 : Int) - 128) = ((64 * code + (x1 - 128) : Nat) : Int) := by rw [IntWalk.i64_in _ (by omega)]; omega
            have Hc := Lib.hid (And.intro hcd hq)
            clear hcd hq hX
            go_wp2_with fail
            exact ⟨⟨2, 64 * code + (x1 - 128), trivial, by go_num, by go_num, .inr (.inl ⟨rfl, by rw [Hc.out.1], Hc.out.2⟩)⟩, by simp [intOf]⟩
          · have hres : chOf (decodeN (s.size - i) x0 x1 x2 x3) = (1, 1) := by rw [Hd.out, if_neg (by omega)]; rfl
            have hDV := Hch.out.symm.trans hres
            have HDV := Lib.hid hDV
            have hsel : decide ((x1 : Int) < 128) = true ∨ (decide ((x1 : Int) < 128) = false ∧ decide ((191 : Int) < (x1 : Int)) = true) := by simp only [decide_eq_true_eq, decide_eq_false_iff_not]; omega
            clear hcd hq hX hres hDV
            rcases hsel with e1 | ⟨e1, e2⟩
            all_goals
              go_wp2_with fail
              go_ret2
              exact ⟨ret_tup2 (by have := congrArg Prod.fst HDV.out; simp at this; omega) (by have := congrArg Prod.snd HDV.out; simp at this; omega), rfl⟩
        · have hcb : code ≤ 2000000 := by omega
          by_cases hq : 128 ≤ x2 ∧ x2 ≤ 191
          · have e1 : decide ((x2 : Int) < 128) = false := decide_eq_false (by omega)
            have e2 : decide ((191 : Int) < (x2 : Int)) = false := decide_eq_false (by omega)
            have w1 : IntKind.i64.wrap (64 * (code : Int) + (x2 : Int) - 128) = ((64 * code + (x2 - 128) : Nat) : Int) := by rw [IntWalk.i64_in _ (by omega)]; omega
            have Hc := Lib.hid (And.intro hcd hq)
            have Hk1 := Lib.hid hc1
            clear hcd hq hX hc1
            go_wp2_with fail
            exact ⟨⟨3, 64 * code + (x2 - 128), trivial, by go_num, by go_num, .inr (.inr (.inl ⟨rfl, by rw [Hc.out.1], Hk1.out, Hc.out.2⟩))⟩, by simp [intOf]⟩
          · have hres : chOf (decodeN (s.size - i) x0 x1 x2 x3) = (1, 1) := by rw [Hd.out, if_neg (by omega)]; rfl
            have hDV := Hch.out.symm.trans hres
            have HDV := Lib.hid hDV
            have hsel : decide ((x2 : Int) < 128) = true ∨ (decide ((x2 : Int) < 128) = false ∧ decide ((191 : Int) < (x2 : Int)) = true) := by simp only [decide_eq_true_eq, decide_eq_false_iff_not]; omega
            clear hcd hq hX hres hDV hc1
            rcases hsel with e1 | ⟨e1, e2⟩
            all_goals
              go_wp2_with fail
              go_ret2
              exact ⟨ret_tup2 (by have := congrArg Prod.fst HDV.out; simp at this; omega) (by have := congrArg Prod.snd HDV.out; simp at this; omega), rfl⟩
        · have hcb : code ≤ 2000000 := by omega
          by_cases hq : 128 ≤ x3 ∧ x3 ≤ 191
          · have e1 : decide ((x3 : Int) < 128) = false := decide_eq_false (by omega)
            have e2 : decide ((191 : Int) < (x3 : Int)) = false := decide_eq_false (by omega)
            have w1 : IntKind.i64.wrap (64 * (code : Int) + (x3 : Int) - 128) = ((64 * code + (x3 - 128) : Nat) : Int) := by rw [IntWalk.i64_in _ (by omega)]; omega
            have Hc := Lib.hid (And.intro hcd hq)
            have Hk1 := Lib.hid hc1
            have Hk2 := Lib.hid hc2
            clear hcd hq hX hc1 hc2
            go_wp2_with fail
            exact ⟨⟨4, 64 * code + (x3 - 128), trivial, by go_num, by go_num, .inr (.inr (.inr ⟨rfl, by rw [Hc.out.1], Hk1.out, Hk2.out, Hc.out.2⟩))⟩, by simp [intOf]⟩
          · have hres : chOf (decodeN (s.size - i) x0 x1 x2 x3) = (1, 1) := by rw [Hd.out, if_neg (by omega)]; rfl
            have hDV := Hch.out.symm.trans hres
            have HDV := Lib.hid hDV
            have hsel : decide ((x3 : Int) < 128) = true ∨ (decide ((x3 : Int) < 128) = false ∧ decide ((191 : Int) < (x3 : Int)) = true) := by simp only [decide_eq_true_eq, decide_eq_false_iff_not]; omega
            clear hcd hq hX hres hDV hc1 hc2
            rcases hsel with e1 | ⟨e1, e2⟩
            all_goals
              go_wp2_with fail
              go_ret2
              exact ⟨ret_tup2 (by have := congrArg Prod.fst HDV.out; simp at this; omega) (by have := congrArg Prod.snd HDV.out; simp at this; omega), rfl⟩
        · have hcb : code ≤ 2000000 := by omega
          by_cases hbad : code < 65536 ∨ 1114111 < code
          · have hres : chOf (decodeN (s.size - i) x0 x1 x2 x3) = (1, 1) := by rw [Hd.out, if_pos (by omega), if_pos (by omega)]; rfl
            have HDV := Lib.hid (Hch.out.symm.trans hres)
            have hsel : decide ((code : Int) < 65536) = true ∨ (decide ((code : Int) < 65536) = false ∧ decide ((1114111 : Int) < (code : Int)) = true) := by simp only [decide_eq_true_eq, decide_eq_false_iff_not]; omega
            clear hcd hX hres hbad hcb hc1 hc2 hc3
            rcases hsel with e1 | ⟨e1, e2⟩
            all_goals
              go_wp2_with fail
              go_ret2
              exact ⟨ret_tup2 (by have := congrArg Prod.fst HDV.out; simp at this; omega) (by have := congrArg Prod.snd HDV.out; simp at this; omega), rfl⟩
          · have hres : chOf (decodeN (s.size - i) x0 x1 x2 x3) = (4, 2) := by rw [Hd.out, if_pos (by omega), if_neg (by omega)]; unfold chOf; simp only; rw [if_pos (by omega)]
            have HDV := Lib.hid (Hch.out.symm.trans hres)
            have e1 : decide ((code : Int) < 65536) = false := decide_eq_false (by omega)
            have e2 : decide ((1114111 : Int) < (code : Int)) = false := decide_eq_false (by omega)
            have e5 : decide ((65536 : Int) ≤ (code : Int)) = true := decide_eq_true (by omega)
            have hsel : decide ((55296 : Int) ≤ (code : Int)) = false ∨ (decide ((55296 : Int) ≤ (code : Int)) = true ∧ decide ((code : Int) ≤ 57343) = false) := by simp only [decide_eq_true_eq, decide_eq_false_iff_not]; omega
            clear hcd hX hres hbad hcb hc1 hc2 hc3
            rcases hsel with e3 | ⟨e3, e4⟩
            all_goals
              go_wp2_with fail
              go_ret2
              exact ⟨ret_tup2 (by have := congrArg Prod.fst HDV.out; simp at this; omega) (by have := congrArg Prod.snd HDV.out; simp at this; omega), rfl⟩
    · have hres : chOf (decodeN (s.size - i) x0 x1 x2 x3) = (1, 1) := by rw [Hd.out, if_neg (by omega)]; rfl
      have HDV := Lib.hid (Hch.out.symm.trans hres)
      have hr0 : ((s.size : Int) ≤ (i : Int) + 3) := by omega
      clear hres hr
      go_enter Tryd.func36, Tryd.ntmps36
      go_wp2_with fail
      go_ret2
      exact ⟨ret_tup2 (by have := congrArg Prod.fst HDV.out; simp at this; omega) (by have := congrArg Prod.snd HDV.out; simp at this; omega), rfl⟩
  have hres : chOf (decodeN (s.size - i) x0 x1 x2 x3) = (1, 1) := by
    obtain ⟨r1, r2⟩ := decN_bad (s.size - i) x0 x1 x2 x3 (by omega)
    unfold chOf; rw [r1, if_neg (by omega)]
  have HDV := Lib.hid (Hch.out.symm.trans hres)
  have hsel : decide ((194 : Int) ≤ (x0 : Int)) = false ∨ (decide ((194 : Int) ≤ (x0 : Int)) = true ∧ decide ((x0 : Int) ≤ 223) = false ∧ decide ((224 : Int) ≤ (x0 : Int)) = true ∧ decide ((x0 : Int) ≤ 239) = false ∧ decide ((240 : Int) ≤ (x0 : Int)) = true ∧ decide ((x0 : Int) ≤ 244) = false) := by
    simp only [decide_eq_true_eq, decide_eq_false_iff_not]; omega
  clear hres
  rcases hsel with d1 | ⟨d1, d2, d3, d4, d5, d6⟩
  · have d3 : decide ((224 : Int) ≤ (x0 : Int)) = false := by simp only [decide_eq_false_iff_not] at d1 ⊢; omega
    have d5 : decide ((240 : Int) ≤ (x0 : Int)) = false := by simp only [decide_eq_false_iff_not] at d1 ⊢; omega
    clear h1 h2 h3
    go_enter Tryd.func36, Tryd.ntmps36
    go_wp2_with fail
    go_ret2
    exact ⟨ret_tup2 (by have := congrArg Prod.fst HDV.out; simp at this; omega) (by have := congrArg Prod.snd HDV.out; simp at this; omega), rfl⟩
  · clear h1 h2 h3
    go_enter Tryd.func36, Tryd.ntmps36
    go_wp2_with fail
    go_ret2
    exact ⟨ret_tup2 (by have := congrArg Prod.fst HDV.out; simp at this; omega) (by have := congrArg Prod.snd HDV.out; simp at this; omega), rfl⟩
end Go.Proofs.YtmbpjjehnfjdiaaDoor
