/-
  The contract of the specification's Diff.
-/
import Derived.Test.YthcjffbdgdjfhaaDiff
namespace Go.Proofs.Ythcjffbdgdjfhaa
set_option linter.unusedVariables false
set_option linter.unusedSimpArgs false
open Go.RowKit

/-- a slice comes back -/
def GivesSl (w : World) (l : List Ed) (e : Ending) (w' : World) : Prop :=
  ∃ A c, e = .returned (.slice A l.length c) ∧ EdsV w' A l ∧ (∀ ad, A = some ad → w.heap.size ≤ ad.block) ∧ Below w.heap.size w w'
theorem GivesSl.empty {w w' : World} (h : Below w.heap.size w w') : GivesSl w [] (.returned (.slice none 0 0)) w' :=
  ⟨none, 0, rfl, EdsV.nil _ _, (fun _ hx => by cases hx), h⟩
theorem GivesSl.of_own {w w' : World} {l : List Ed} {v : Value} (h : w'.ownsRow w.heap.size 61 3 v l.length (edsCells l)) (hb : Below w.heap.size w w') : GivesSl w l (.returned v) w' := by
  obtain ⟨A, c, rfl, h1, h2⟩ := EdsV.of_own h
  exact ⟨A, c, rfl, h1, h2, hb⟩

theorem dropRev_length (s : ByteArray) (p : Nat) : ((byt s).drop p).reverse.length = s.size - p := by rw [List.length_reverse, List.length_drop, byt_length]
theorem dropRev_get (s : ByteArray) (p k : Nat) (h : k < s.size - p) (h2 : k < ((byt s).drop p).reverse.length) : ((byt s).drop p).reverse[k] = s[s.size - 1 - k]'(by omega) := by
  rw [List.getElem_reverse, List.getElem_drop]
  have e : p + (((byt s).drop p).length - 1 - k) = s.size - 1 - k := by rw [List.length_drop, byt_length]; omega
  have : (byt s)[p + (((byt s).drop p).length - 1 - k)]'(by rw [byt_length]; omega) = (byt s)[s.size - 1 - k]'(by rw [byt_length]; omega) := getElem_congr_idx e
  exact this

set_option maxRecDepth 100000 in
set_option maxHeartbeats 4000000 in
theorem rDiff_any (a b : ByteArray) (w : World) (ha : a.size ≤ 60000) (hb : b.size ≤ 60000) :
    Calls Try.prog 31 #[.string a, .string b] w (GivesSl w (diffL a b)) := by
  by_cases heq : a = b
  · subst heq
    have h1 : diffL a a = [] := by unfold diffL; simp
    rw [h1]
    clear h1
    go_enter Try.func31, Try.ntmps31
    go_wp2_with fail
    go_ret
    exact GivesSl.empty (Below.refl _ _)
  · have q : (a.toList == b.toList) = false := by
      rw [beq_eq_false_iff_ne]
      exact fun h => heq (toList_inj h)
    have hp := cpre_le (byt a) (byt b)
    rw [byt_length, byt_length] at hp
    have hq := cpre_le ((byt a).drop (cpre (byt a) (byt b))).reverse ((byt b).drop (cpre (byt a) (byt b))).reverse
    rw [dropRev_length, dropRev_length] at hq
    have h1 : diffL a b = [⟨cpre (byt a) (byt b), (a.size : Int) - cpre ((byt a).drop (cpre (byt a) (byt b))).reverse ((byt b).drop (cpre (byt a) (byt b))).reverse,
      b.extract (cpre (byt a) (byt b)) (b.size - cpre ((byt a).drop (cpre (byt a) (byt b))).reverse ((byt b).drop (cpre (byt a) (byt b))).reverse)⟩] := by unfold diffL; rw [if_neg heq]
    rw [h1]
    clear h1 heq
    generalize hP : cpre (byt a) (byt b) = p at *
    have HP := Lib.hid hP
    clear hP
    generalize hQ : cpre ((byt a).drop p).reverse ((byt b).drop p).reverse = r at *
    have HQ := Lib.hid hQ
    clear hQ
    obtain ⟨hp1, hp2⟩ := hp
    obtain ⟨hq1, hq2⟩ := hq
    go_enter Try.func31, Try.ntmps31
    go_wp2_with fail
    go_loopw [5] (fun i wr => ∃ (k : Nat), k ≤ a.size ∧ k ≤ b.size ∧ i = .int .i64 k ∧ p = k + cpre ((byt a).drop k) ((byt b).drop k) ∧ ∃ n, wr = w.drewN n) (fun i _ => a.size - (intOf i).toNat)
    case atStart => exact ⟨0, by omega, by omega, rfl, by simp [HP.out], 0, rfl⟩
    case round =>
      obtain ⟨k, hk1, hk2, rfl, he, n, rfl⟩ := hrel
      by_cases hc : ∃ (h1 : k < a.size) (h2 : k < b.size), a[k] = b[k]
      · obtain ⟨h1, h2, hq⟩ := hc
        have q : ((a[k].toNat : Int) == (b[k].toNat : Int)) = true := by rw [hq]; exact beq_self_eq_true _
        have g1 : k < (byt a).length := by rw [byt_length]; exact h1
        have g2 : k < (byt b).length := by rw [byt_length]; exact h2
        have He : Hid (p = k + 1 + cpre ((byt a).drop (k + 1)) ((byt b).drop (k + 1))) := Lib.hid (by rw [cpre_step g1 g2 hq] at he; omega)
        have d1 : decide (k < a.size) = true := by simpa using h1
        have d2 : decide (k < b.size) = true := by simpa using h2
        clear he hq
        go_wp2_with fail
        go_quiet (fail)
        go_wp2_with fail
        exact ⟨⟨k + 1, by omega, by omega, by go_num, He.out, n + nq, (by first | rfl | rw [World.drewN_drewN])⟩, by simp [intOf]; omega⟩
      · have hkp : k = p := by
          by_cases h1 : k < a.size
          · by_cases h2 : k < b.size
            · have g1 : k < (byt a).length := by rw [byt_length]; exact h1
              have g2 : k < (byt b).length := by rw [byt_length]; exact h2
              have hne : ¬ (byt a)[k] = (byt b)[k] := fun h => hc ⟨h1, h2, h⟩
              rw [cpre_stop g1 g2 hne] at he; omega
            · rw [cpre_end (by rw [byt_length, byt_length]; omega)] at he; omega
          · rw [cpre_end (by rw [byt_length, byt_length]; omega)] at he; omega
        subst hkp
        clear he
        have hcase : (decide (k < a.size) = false) ∨ (decide (k < a.size) = true ∧ decide (k < b.size) = false) ∨
            (∃ (h1 : k < a.size) (h2 : k < b.size), decide (k < a.size) = true ∧ decide (k < b.size) = true ∧ ((a[k].toNat : Int) == (b[k].toNat : Int)) = false) := by
          by_cases h1 : k < a.size
          · by_cases h2 : k < b.size
            · refine .inr (.inr ⟨h1, h2, by simpa using h1, by simpa using h2, ?_⟩)
              rw [beq_eq_false_iff_ne]
              intro h
              exact hc ⟨h1, h2, UInt8.toNat_inj.1 (by omega)⟩
            · exact .inr (.inl ⟨by simpa using h1, by simpa using h2⟩)
          · exact .inl (by simpa using h1)
        clear hc
        have s1 : IntKind.i64.wrap ((a.size : Int) - (k : Int)) = (a.size : Int) - (k : Int) := IntWalk.i64_in _ (by omega)
        have s2 : IntKind.i64.wrap ((b.size : Int) - (k : Int)) = (b.size : Int) - (k : Int) := IntWalk.i64_in _ (by omega)
        have S := Lib.hid (And.intro s1 s2)
        clear s1 s2
        rcases hcase with d1 | ⟨d1, d2⟩ | ⟨h1, h2, d1, d2, q3⟩
        all_goals
          go_wp2_with fail
          go_quiet (fail)
          go_wp2_with fail
          obtain ⟨s1, s2⟩ := S.out
          go_loopw [6] (fun i wr => ∃ (j : Nat), j ≤ a.size - k ∧ j ≤ b.size - k ∧ i = .int .i64 j ∧ r = j + cpre (((byt a).drop k).reverse.drop j) (((byt b).drop k).reverse.drop j) ∧ ∃ n, wr = w.drewN n) (fun i _ => a.size - (intOf i).toNat)
          case atStart => exact ⟨0, by omega, by omega, rfl, by simp [HQ.out], n + nq, (by first | rfl | rw [World.drewN_drewN])⟩
          case round =>
            clear d1
            try clear d2
            try clear q3
            obtain ⟨j, hk1, hk2, rfl, he, n2, rfl⟩ := hrel
            by_cases hc : ∃ (h1 : j < a.size - k) (h2 : j < b.size - k), a[a.size - 1 - j]'(by omega) = b[b.size - 1 - j]'(by omega)
            · obtain ⟨h1, h2, hq⟩ := hc
              have q4 : ((a[a.size - 1 - j]'(by omega)).toNat : Int) == ((b[b.size - 1 - j]'(by omega)).toNat : Int) := by rw [hq]; exact beq_self_eq_true _
              have g1 : j < ((byt a).drop k).reverse.length := by rw [dropRev_length]; exact h1
              have g2 : j < ((byt b).drop k).reverse.length := by rw [dropRev_length]; exact h2
              have He : Hid (r = j + 1 + cpre (((byt a).drop k).reverse.drop (j + 1)) (((byt b).drop k).reverse.drop (j + 1))) := Lib.hid (by rw [cpre_step g1 g2 (by rw [dropRev_get a k j h1 g1, dropRev_get b k j h2 g2]; exact hq)] at he; omega)
              have d3 : decide ((j : Int) < (a.size : Int) - (k : Int)) = true := by simp; omega
              have d4 : decide ((j : Int) < (b.size : Int) - (k : Int)) = true := by simp; omega
              have s3 : IntKind.i64.wrap ((a.size : Int) - 1) = (a.size : Int) - 1 := IntWalk.i64_in _ (by omega)
              have s4 : IntKind.i64.wrap ((b.size : Int) - 1) = (b.size : Int) - 1 := IntWalk.i64_in _ (by omega)
              have s5 : IntKind.i64.wrap ((a.size : Int) - 1 - (j : Int)) = ((a.size - 1 - j : Nat) : Int) := by rw [IntWalk.i64_in _ (by omega)]; omega
              have s6 : IntKind.i64.wrap ((b.size : Int) - 1 - (j : Int)) = ((b.size - 1 - j : Nat) : Int) := by rw [IntWalk.i64_in _ (by omega)]; omega
              have n1 : a.size - 1 - j < a.size := by omega
              have n2 : b.size - 1 - j < b.size := by omega
              clear he hq g1 g2
              go_wp2_with fail
              go_quiet (fail)
              go_wp2_with fail
              exact ⟨⟨j + 1, by omega, by omega, by go_num, He.out, _, (by first | rfl | rw [World.drewN_drewN])⟩, by simp [intOf]; omega⟩
            · have hjr : j = r := by
                by_cases h1 : j < a.size - k
                · by_cases h2 : j < b.size - k
                  · have g1 : j < ((byt a).drop k).reverse.length := by rw [dropRev_length]; exact h1
                    have g2 : j < ((byt b).drop k).reverse.length := by rw [dropRev_length]; exact h2
                    have hne : ¬ ((byt a).drop k).reverse[j] = ((byt b).drop k).reverse[j] := by
                      rw [dropRev_get a k j h1 g1, dropRev_get b k j h2 g2]
                      exact fun h => hc ⟨h1, h2, h⟩
                    rw [cpre_stop g1 g2 hne] at he; omega
                  · rw [cpre_end (by rw [dropRev_length, dropRev_length]; omega)] at he; omega
                · rw [cpre_end (by rw [dropRev_length, dropRev_length]; omega)] at he; omega
              subst hjr
              clear he
              have hcase : (decide ((j : Int) < (a.size : Int) - (k : Int)) = false) ∨ (decide ((j : Int) < (a.size : Int) - (k : Int)) = true ∧ decide ((j : Int) < (b.size : Int) - (k : Int)) = false) ∨
                  (∃ (h1 : a.size - 1 - j < a.size) (h2 : b.size - 1 - j < b.size), j < a.size - k ∧ j < b.size - k ∧ decide ((j : Int) < (a.size : Int) - (k : Int)) = true ∧ decide ((j : Int) < (b.size : Int) - (k : Int)) = true ∧ ((a[a.size - 1 - j].toNat : Int) == (b[b.size - 1 - j].toNat : Int)) = false) := by
                by_cases h1 : j < a.size - k
                · by_cases h2 : j < b.size - k
                  · refine .inr (.inr ⟨by omega, by omega, h1, h2, by simp; omega, by simp; omega, ?_⟩)
                    rw [beq_eq_false_iff_ne]
                    intro h
                    exact hc ⟨h1, h2, UInt8.toNat_inj.1 (by omega)⟩
                  · exact .inr (.inl ⟨by simp; omega, by simp; omega⟩)
                · exact .inl (by simp; omega)
              clear hc
              have b1 : (k : Int) ≤ (b.size : Int) - (j : Int) := by omega
              have b2 : (b.size : Int) - (j : Int) ≤ (b.size : Int) := by omega
              rcases hcase with d3 | ⟨d3, d4⟩ | ⟨n1, n2, h1, h2, d3, d4, q4⟩
              case' inr.inr =>
                have s3 : IntKind.i64.wrap ((a.size : Int) - 1) = (a.size : Int) - 1 := IntWalk.i64_in _ (by omega)
                have s4 : IntKind.i64.wrap ((b.size : Int) - 1) = (b.size : Int) - 1 := IntWalk.i64_in _ (by omega)
                have s5 : IntKind.i64.wrap ((a.size : Int) - 1 - (j : Int)) = ((a.size - 1 - j : Nat) : Int) := by rw [IntWalk.i64_in _ (by omega)]; omega
                have s6 : IntKind.i64.wrap ((b.size : Int) - 1 - (j : Int)) = ((b.size - 1 - j : Nat) : Int) := by rw [IntWalk.i64_in _ (by omega)]; omega
              all_goals
                go_wp2_with fail
                go_quiet (fail)
                go_wp2_with fail
                go_ret
                refine ⟨_, 1, rfl, EdsV.block (g := w.heap.size) (cs := _) (heap_alloc_new (w.drewN _) _) rfl, fun ad h => by cases h; exact Nat.le_refl _, (below_drewN (Below.refl _ _) _).alloc (by simp) _⟩
end Go.Proofs.Ythcjffbdgdjfhaa
