/-
  TokenNeighbours: which kinds are no neighbours; a line feed is in a TkBlank alone.
  No condition: every input.
-/
import Derived.Test.YtmdgclcakogggaaDoorTkAlive
import Derived.Test.YtmdgclcakogggaaDoorTkNb
import Derived.Test.YtmdgclcakogggaaDoorTkShort
import Derived.Test.YtmdgclcakogggaaDoorTkLaid
namespace Go.Proofs.YtmdgclcakogggaaDoor.lawTokenNeighbours
set_option linter.unusedVariables false
set_option linter.unusedSimpArgs false
open Go.ChangeShapes Go.WideShapes Go.RowKit
open Go.ChangeMaps (open_string shut_string)

theorem lexL_small : ∀ (n : Nat) (s : ByteArray), s.size ≤ n → ∀ p ∈ lexL s, p.2.size ≤ s.size
  | 0, s, h, p, hp => by rw [lexL_nil (by omega)] at hp; cases hp
  | n + 1, s, h, p, hp => by
    by_cases h0 : s.size = 0
    · rw [lexL_nil h0] at hp; cases hp
    · have hle := firstP_le s (by omega)
      have hz := tail_size s (firstP s).2
      rw [lexL_step (by omega)] at hp
      rcases List.mem_cons.1 hp with rfl | hp
      · simp only [ByteArray.size_extract]; omega
      · have := lexL_small n _ (by omega) p hp
        omega

set_option maxRecDepth 100000 in
set_option maxHeartbeats 1000000 in
theorem walk (t : ByteArray) (ht : t.size ≤ maxLen) (w : World) (hT : Tabs w) :
    Calls Tryd.prog 11 #[.string t] w fun e w' => e = .returned (.bool true) ∧ Below w.heap.size w w' := by
  have hsh := ShortT_any t w ht
  have hst := shortT_size t
  generalize shortT t = s at hsh hst
  have Hsh := Lib.hid hsh
  have HT := Lib.hid hT
  by_cases h0 : 20000 < s.size
  · have hst' : s.size ≤ 20001 := by omega
    clear hsh hst hT ht
    go_enter Tryd.func11, Tryd.ntmps11
    go_wp2_with fail
    refine Hsh.out.mono ?_
    rintro e w1 ⟨rfl, rfl⟩
    go_wp2_with fail
    refine (Lex_no s w h0).mono ?_
    rintro e w1 ⟨rfl, rfl⟩
    go_wp2_with fail
    refine (alive_any w1 HT.out).mono ?_
    rintro e w2 ⟨rfl, hb2⟩
    go_wp2_with fail
    go_ret
    exact ⟨rfl, hb2⟩
  · have hs : s.size ≤ 20000 := by omega
    have hnf := lexL_nf s.size s (Nat.le_refl _)
    have hpr := lexL_pair s.size s (Nat.le_refl _)
    have hln := lexL_length s.size s (Nat.le_refl _)
    have hlx := Lex_own s w hs hT
    have hsz := lexL_small s.size s (Nat.le_refl _)
    generalize lexL s = L at hnf hpr hln hlx hsz
    have Hlx := Lib.hid hlx
    have Hnf := Lib.hid hnf
    have Hpr := Lib.hid hpr
    clear hsh hst hT ht hlx hnf hpr h0
    go_enter Tryd.func11, Tryd.ntmps11
    go_wp2_with fail
    refine Hsh.out.mono ?_
    rintro e w1 ⟨rfl, rfl⟩
    go_wp2_with fail
    refine Hlx.out.mono ?_
    rintro e w1 ⟨v, rfl, ho, hb1⟩
    obtain ⟨A, c, rfl, hE, hc, _⟩ := TksV.of_own ho
    have HT1 := Lib.hid (HT.out.below hb1)
    clear ho
    go_wp2_with fail
    go_loopw [6, 7, 8, 9, 10] (fun i _ _ _ _ wr => ∃ k : Nat, k ≤ L.length ∧ i = .int .i64 k ∧ wr = w1) (fun i _ _ _ _ _ => L.length - (intOf i).toNat)
    case atStart => exact ⟨0, Nat.zero_le _, rfl, rfl⟩
    case round =>
      obtain ⟨k, hk, rfl, rfl⟩ := hrel
      by_cases hlt : k < L.length
      · obtain ⟨b, off, rfl, hb, m1, m2⟩ := hE.get hlt
        have hnk := Hnf.out L[k] (List.getElem_mem hlt)
        have hxs := hsz L[k] (List.getElem_mem hlt)
        obtain ⟨⟨kd, x⟩, hx⟩ : ∃ p, p = L[k] := ⟨_, rfl⟩
        rw [← hx] at m1 m2 hnk hxs
        simp only at m1 m2 hnk hxs
        have HX := Lib.hid hx
        have Hnk := Lib.hid hnk
        have hk1 : (0 : Int) ≤ (k : Int) := by omega
        have hk2 : (k : Int) < (L.length : Int) := by omega
        have sk : IntKind.i64.wrap ((k : Int) + 1) = ((k + 1 : Nat) : Int) := by rw [IntWalk.i64_in _ (by omega)]; omega
        clear hx hnk
        go_wp2_with fail
        go_loopw [8] (fun j w2 => ∃ n : Nat, n ≤ x.size ∧ j = .int .i64 n ∧ w2 = wr) (fun j _ => x.size - (intOf j).toNat)
        case atStart => exact ⟨0, Nat.zero_le _, rfl, rfl⟩
        case round =>
          obtain ⟨n, hn, rfl, rfl⟩ := hrel
          by_cases hn2 : n < x.size
          · have hn3 : (n : Int) < (x.size : Int) := by omega
            by_cases h1 : kd = 1
            · subst h1
              by_cases hk0 : k = 0
              · have q0 : ((k : Int) == 0) = true := by simp; omega
                clear hk0
                go_wp2_with fail
                exact ⟨⟨k + 1, by omega, by go_num, by first | rfl | trivial⟩, by simp [intOf]; omega⟩
              · have hkp : k - 1 < L.length := by omega
                obtain ⟨b2, off2, e2, _, z1, _⟩ := hE.get hkp
                injection e2 with e2
                injection e2 with e2 e3
                subst e2 e3
                have hpair := Hpr.out (k - 1) L[k - 1] L[k] (List.getElem?_eq_getElem hkp) (by rw [show k - 1 + 1 = k by omega]; exact List.getElem?_eq_getElem hlt)
                rw [← HX.out] at hpair
                obtain ⟨kb, hkbd⟩ : ∃ kb, kb = L[k - 1].1 := ⟨_, rfl⟩
                rw [← hkbd] at z1 hpair
                simp only at hpair
                clear hkbd
                have q0 : ((k : Int) == 0) = false := by simp; omega
                have sk1 : IntKind.i64.wrap ((k : Int) - 1) = ((k - 1 : Nat) : Int) := by rw [IntWalk.i64_in _ (by omega)]; omega
                have hkp1 : ((k - 1 : Nat) : Int) < (L.length : Int) := by omega
                have hkb : kb = 1 ∨ kb = 3 ∨ kb = 4 ∨ (kb ≠ 1 ∧ kb ≠ 3 ∧ kb ≠ 4) := by omega
                rcases hkb with rfl | rfl | rfl | ⟨g1, g3, g4⟩
                · simp [badPair] at hpair
                · go_wp2_with fail
                  exact ⟨⟨k + 1, by omega, by go_num, by first | rfl | trivial⟩, by simp [intOf]; omega⟩
                · go_wp2_with fail
                  exact ⟨⟨k + 1, by omega, by go_num, by first | rfl | trivial⟩, by simp [intOf]; omega⟩
                · have e1 : (kb == 1) = false := by simpa using g1
                  have e3 : (kb == 3) = false := by simpa using g3
                  have e4 : (kb == 4) = false := by simpa using g4
                  go_wp2_with fail
                  exact ⟨⟨k + 1, by omega, by go_num, by first | rfl | trivial⟩, by simp [intOf]; omega⟩
            · have q1 : (kd != 1) = true := by simpa using h1
              have hnl : (((x[n]'hn2).toNat : Int) == 10) = false := (Hnk.out h1) (x[n]'hn2) (List.getElem_mem (l := byt x) (by rw [byt_length]; exact hn2))
              have sn : IntKind.i64.wrap ((n : Int) + 1) = ((n + 1 : Nat) : Int) := by rw [IntWalk.i64_in _ (by omega)]; omega
              clear h1
              go_wp2_with fail
              exact ⟨⟨n + 1, by omega, by go_num, by first | rfl | trivial⟩, by simp [intOf]; omega⟩
          · have q9 : decide ((n : Int) < (x.size : Int)) = false := by simp; omega
            by_cases hk0 : k = 0
            · have q0 : ((k : Int) == 0) = true := by simp; omega
              clear hk0
              go_wp2_with fail
              exact ⟨⟨k + 1, by omega, by go_num, by first | rfl | trivial⟩, by simp [intOf]; omega⟩
            · have hkp : k - 1 < L.length := by omega
              obtain ⟨b2, off2, e2, _, z1, _⟩ := hE.get hkp
              injection e2 with e2
              injection e2 with e2 e3
              subst e2 e3
              have hpair := Hpr.out (k - 1) L[k - 1] L[k] (List.getElem?_eq_getElem hkp) (by rw [show k - 1 + 1 = k by omega]; exact List.getElem?_eq_getElem hlt)
              rw [← HX.out] at hpair
              obtain ⟨kb, hkbd⟩ : ∃ kb, kb = L[k - 1].1 := ⟨_, rfl⟩
              rw [← hkbd] at z1 hpair
              simp only at hpair
              clear hkbd
              have q0 : ((k : Int) == 0) = false := by simp; omega
              have sk1 : IntKind.i64.wrap ((k : Int) - 1) = ((k - 1 : Nat) : Int) := by rw [IntWalk.i64_in _ (by omega)]; omega
              have hkp1 : ((k - 1 : Nat) : Int) < (L.length : Int) := by omega
              have hkb : kb = 1 ∨ kb = 3 ∨ kb = 4 ∨ (kb ≠ 1 ∧ kb ≠ 3 ∧ kb ≠ 4) := by omega
              have hkd : kd = 3 ∨ kd = 4 ∨ kd = 5 ∨ (kd ≠ 3 ∧ kd ≠ 4 ∧ kd ≠ 5) := by omega
              rcases hkd with rfl | rfl | rfl | ⟨g1, g2, g5⟩
              · rcases hkb with rfl | rfl | rfl | ⟨g1, g3, g4⟩
                · go_wp2_with fail
                  exact ⟨⟨k + 1, by omega, by go_num, by first | rfl | trivial⟩, by simp [intOf]; omega⟩
                · simp [badPair] at hpair
                · simp [badPair] at hpair
                · have e1 : (kb == 1) = false := by simpa using g1
                  have e3 : (kb == 3) = false := by simpa using g3
                  have e4 : (kb == 4) = false := by simpa using g4
                  go_wp2_with fail
                  exact ⟨⟨k + 1, by omega, by go_num, by first | rfl | trivial⟩, by simp [intOf]; omega⟩
              · rcases hkb with rfl | rfl | rfl | ⟨g1, g3, g4⟩
                · go_wp2_with fail
                  exact ⟨⟨k + 1, by omega, by go_num, by first | rfl | trivial⟩, by simp [intOf]; omega⟩
                · simp [badPair] at hpair
                · simp [badPair] at hpair
                · have e1 : (kb == 1) = false := by simpa using g1
                  have e3 : (kb == 3) = false := by simpa using g3
                  have e4 : (kb == 4) = false := by simpa using g4
                  go_wp2_with fail
                  exact ⟨⟨k + 1, by omega, by go_num, by first | rfl | trivial⟩, by simp [intOf]; omega⟩
              · rcases hkb with rfl | rfl | rfl | ⟨g1, g3, g4⟩
                · go_wp2_with fail
                  exact ⟨⟨k + 1, by omega, by go_num, by first | rfl | trivial⟩, by simp [intOf]; omega⟩
                · simp [badPair] at hpair
                · simp [badPair] at hpair
                · have e1 : (kb == 1) = false := by simpa using g1
                  have e3 : (kb == 3) = false := by simpa using g3
                  have e4 : (kb == 4) = false := by simpa using g4
                  go_wp2_with fail
                  exact ⟨⟨k + 1, by omega, by go_num, by first | rfl | trivial⟩, by simp [intOf]; omega⟩
              · have f3 : (kd == 3) = false := by simpa using g1
                have f4 : (kd == 4) = false := by simpa using g2
                have f5 : (kd == 5) = false := by simpa using g5
                clear g1 g2 g5
                rcases hkb with rfl | rfl | rfl | ⟨g1, g3, g4⟩
                · have d1 : (kd == 1) = false := by simpa [badPair] using hpair
                  go_wp2_with fail
                  exact ⟨⟨k + 1, by omega, by go_num, by first | rfl | trivial⟩, by simp [intOf]; omega⟩
                · go_wp2_with fail
                  exact ⟨⟨k + 1, by omega, by go_num, by first | rfl | trivial⟩, by simp [intOf]; omega⟩
                · go_wp2_with fail
                  exact ⟨⟨k + 1, by omega, by go_num, by first | rfl | trivial⟩, by simp [intOf]; omega⟩
                · have e1 : (kb == 1) = false := by simpa using g1
                  have e3 : (kb == 3) = false := by simpa using g3
                  have e4 : (kb == 4) = false := by simpa using g4
                  go_wp2_with fail
                  exact ⟨⟨k + 1, by omega, by go_num, by first | rfl | trivial⟩, by simp [intOf]; omega⟩
      · have q : decide ((k : Int) < (L.length : Int)) = false := by simp; omega
        go_wp2_with fail
        with_reducible refine (alive_any wr HT1.out).mono ?_
        rintro e w2 ⟨rfl, hb2⟩
        go_wp2_with fail
        go_ret
        exact ⟨rfl, hb1.trans (hb2.mono hb1.size)⟩
end Go.Proofs.YtmdgclcakogggaaDoor.lawTokenNeighbours
