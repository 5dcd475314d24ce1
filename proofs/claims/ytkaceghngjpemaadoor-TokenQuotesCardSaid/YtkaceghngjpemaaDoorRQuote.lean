/-
  Contracts of the specification's Quote and Unquote.
-/
import Derived.Test.YtkaceghngjpemaaDoorRText
import Derived.Test.YtkaceghngjpemaaDoorTkUnq
namespace Go.Proofs.YtkaceghngjpemaaDoor
set_option linter.unusedVariables false
set_option linter.unusedSimpArgs false
open Go.RowKit

theorem pairP_or (s : ByteArray) : (pairP s).2 = 0 ∨ (pairP s).2 = 2 := by
  unfold pairP; repeat' split
  all_goals simp

set_option maxRecDepth 100000 in
set_option maxHeartbeats 2000000 in
theorem RQuote_any (s : ByteArray) (w : World) (hs : s.size ≤ 60000) :
    Calls Tryd.prog 46 #[.string s] w fun e w' => e = .returned (.string (quoteB s)) ∧ Below w.heap.size w w' := by
  obtain ⟨i0, hi0, hz0, hz1, hz2⟩ := info_parts infoByteR
  have sc : IntKind.i64.wrap ((s.size : Int) + 2) = ((s.size + 2 : Nat) : Int) := by rw [IntWalk.i64_in _ (by omega)]; omega
  go_enter Tryd.func46, Tryd.ntmps46
  go_wp2_with (refine wpList_make_own _ rfl _ _ 87 rfl w.heap.size 5 i0 _ 1 Tryd.underlying87 hi0 hz0 hz1 .i64 .i64 _ (s.size + 2) rfl rfl (by first | rfl | (push_cast; rfl)) ?c1 ?c2 ?c3 ?_)
  try (case c1 => first | omega | (rw [hz2]; omega))
  try (case c2 => first | omega | (unfold maxLen; omega))
  try (case c3 => exact Nat.le_refl _)
  intro w2 hown2 hgrow2
  have hB2 : Below w.heap.size w w2 := (Below.refl _ _).grown hgrow2 (Nat.le_refl _) (fun g hg => by simp at hg)
  have hs2 := hB2.size
  have hnil : Hid (Lib.byteCells [] = ([] : List Value)) := Lib.hid rfl
  go_wp2_with (at_builtin; refine wpList_append_own _ rfl _ _ 87 rfl w.heap.size 5 i0 _ 1 1 Tryd.underlying87 hi0 hz0 hz1 hz2 rfl (by decide) _ _ _ rfl (hown2.alloc _) ⟨w2.heap.size, 0, none⟩ 1 1 [.int .u8 34] rfl rfl ?q1a ?q1b ?q1c ?q1d ?q1e ?_)
  try (case q1a => exact World.news_of_block (heap_alloc_new w2 _))
  try (case q1b => simp [Value.oneCell'])
  try (case q1c => first | omega | (unfold maxLen; omega))
  try (case q1d => omega)
  try (case q1e => first | omega | (simp; omega))
  intro vq1 w3 hownq1 hgrowq1 _
  have hBq1 := (hB2.alloc (hs2) (.cells #[.int .u8 34] 5)).grown hgrowq1 (by simp; omega) (fun g hg => (hown2.lt g hg).1)
  have hoq1 : w3.ownsRow w.heap.size 5 1 vq1 (([] : List UInt8) ++ [34]).length (Lib.byteCells (([] : List UInt8) ++ [34])) := by
    rw [byteCells_append, List.length_append]; exact hownq1
  have Ho := Lib.hid hoq1
  have HB := Lib.hid hBq1
  clear hownq1 hBq1 hoq1 hgrowq1 hown2 hB2
  go_wp2_with fail
  go_loopw [3, 4, 27, 32] (fun v i _ _ wr => ∃ (k : Nat) (pre : List UInt8) (v0 : Value), v0 = v ∧ k ≤ s.size ∧ i = .int .i64 k ∧ pre ++ qList ((byt s).drop k) = 34 :: qList (byt s) ∧ pre.length ≤ 1 + 2 * k ∧ wr.ownsRow w.heap.size 5 1 v0 pre.length (Lib.byteCells pre) ∧ Below w.heap.size w wr) (fun _ i _ _ _ => s.size - (intOf i).toNat)
  case atStart => exact ⟨0, [34], _, rfl, Nat.zero_le _, rfl, by simp, by simp, Ho.out, HB.out⟩
  case round =>
    obtain ⟨k, pre, v, rfl, hk, rfl, he, hp, hown, hB⟩ := hrel
    have hs1 := hB.size
    have hk0 : (0 : Int) ≤ (k : Int) := by omega
    by_cases hlt : k < s.size
    · have hks : (k : Int) < (s.size : Int) := by omega
      have g1 : k < (byt s).length := by rw [byt_length]; exact hlt
      rw [qList_step g1, ← List.append_assoc] at he
      have hqb : qByte (byt s)[k] = qByte (s[k]'hlt) := rfl
      rw [hqb] at he
      clear Ho HB
      cases h1 : (((s[k]'hlt).toNat : Int) == 10)
      · cases h2 : (((s[k]'hlt).toNat : Int) == 34)
        · cases h3 : (((s[k]'hlt).toNat : Int) == 92)
          · have he2 : pre ++ [s[k]'hlt] ++ qList ((byt s).drop (k + 1)) = 34 :: qList (byt s) := by unfold qByte at he; rw [h1, h2, h3] at he; exact he
            have He := Lib.hid he2
            clear he he2 hqb
            go_wp2_with (at_builtin; refine wpList_append_own _ rfl _ _ 87 rfl w.heap.size 5 i0 _ 1 1 Tryd.underlying87 hi0 hz0 hz1 hz2 rfl (by decide) _ _ _ rfl (hown.alloc _) ⟨wr.heap.size, 0, none⟩ 1 1 [.int .u8 ((s[k]'hlt).toNat : Int)] rfl rfl ?q2a ?q2b ?q2c ?q2d ?q2e ?_)
            try (case q2a => exact World.news_of_block (heap_alloc_new wr _))
            try (case q2b => simp [Value.oneCell'])
            try (case q2c => first | omega | (unfold maxLen; omega))
            try (case q2d => omega)
            try (case q2e => first | omega | (simp; omega))
            intro vq2 w4 hownq2 hgrowq2 _
            have hBq2 := (hB.alloc (hs1) (.cells #[.int .u8 ((s[k]'hlt).toNat : Int)] 5)).grown hgrowq2 (by simp; omega) (fun g hg => (hown.lt g hg).1)
            have hoq2 : w4.ownsRow w.heap.size 5 1 vq2 (pre ++ [s[k]'hlt]).length (Lib.byteCells (pre ++ [s[k]'hlt])) := by
              rw [byteCells_append, List.length_append]; exact hownq2
            have Ho := Lib.hid hoq2
            have HB := Lib.hid hBq2
            clear hownq2 hBq2 hoq2 hgrowq2 hown hB
            go_wp2_with fail
            exact ⟨⟨k + 1, _, _, rfl, by omega, by go_num, He.out, by simp; omega, Ho.out, HB.out⟩, by simp [intOf]; omega⟩
          · have he2 : pre ++ [92, s[k]'hlt] ++ qList ((byt s).drop (k + 1)) = 34 :: qList (byt s) := by unfold qByte at he; rw [h1, h2, h3] at he; exact he
            have He := Lib.hid he2
            clear he he2 hqb
            go_wp2_with (at_builtin; refine wpList_append_own _ rfl _ _ 87 rfl w.heap.size 5 i0 _ 1 1 Tryd.underlying87 hi0 hz0 hz1 hz2 rfl (by decide) _ _ _ rfl (hown.alloc _) ⟨wr.heap.size, 0, none⟩ 2 2 [.int .u8 92, .int .u8 ((s[k]'hlt).toNat : Int)] rfl rfl ?q4a ?q4b ?q4c ?q4d ?q4e ?_)
            try (case q4a => exact World.news_of_block (heap_alloc_new wr _))
            try (case q4b => simp [Value.oneCell'])
            try (case q4c => first | omega | (unfold maxLen; omega))
            try (case q4d => omega)
            try (case q4e => first | omega | (simp; omega))
            intro vq4 w4 hownq4 hgrowq4 _
            have hBq4 := (hB.alloc (hs1) (.cells #[.int .u8 92, .int .u8 ((s[k]'hlt).toNat : Int)] 5)).grown hgrowq4 (by simp; omega) (fun g hg => (hown.lt g hg).1)
            have hoq4 : w4.ownsRow w.heap.size 5 1 vq4 (pre ++ [92, s[k]'hlt]).length (Lib.byteCells (pre ++ [92, s[k]'hlt])) := by
              rw [byteCells_append, List.length_append]; exact hownq4
            have Ho := Lib.hid hoq4
            have HB := Lib.hid hBq4
            clear hownq4 hBq4 hoq4 hgrowq4 hown hB
            go_wp2_with fail
            exact ⟨⟨k + 1, _, _, rfl, by omega, by go_num, He.out, by simp; omega, Ho.out, HB.out⟩, by simp [intOf]; omega⟩
        · have he2 : pre ++ [92, s[k]'hlt] ++ qList ((byt s).drop (k + 1)) = 34 :: qList (byt s) := by unfold qByte at he; rw [h1, h2] at he; exact he
          have He := Lib.hid he2
          clear he he2 hqb
          go_wp2_with (at_builtin; refine wpList_append_own _ rfl _ _ 87 rfl w.heap.size 5 i0 _ 1 1 Tryd.underlying87 hi0 hz0 hz1 hz2 rfl (by decide) _ _ _ rfl (hown.alloc _) ⟨wr.heap.size, 0, none⟩ 2 2 [.int .u8 92, .int .u8 ((s[k]'hlt).toNat : Int)] rfl rfl ?q3a ?q3b ?q3c ?q3d ?q3e ?_)
          try (case q3a => exact World.news_of_block (heap_alloc_new wr _))
          try (case q3b => simp [Value.oneCell'])
          try (case q3c => first | omega | (unfold maxLen; omega))
          try (case q3d => omega)
          try (case q3e => first | omega | (simp; omega))
          intro vq3 w4 hownq3 hgrowq3 _
          have hBq3 := (hB.alloc (hs1) (.cells #[.int .u8 92, .int .u8 ((s[k]'hlt).toNat : Int)] 5)).grown hgrowq3 (by simp; omega) (fun g hg => (hown.lt g hg).1)
          have hoq3 : w4.ownsRow w.heap.size 5 1 vq3 (pre ++ [92, s[k]'hlt]).length (Lib.byteCells (pre ++ [92, s[k]'hlt])) := by
            rw [byteCells_append, List.length_append]; exact hownq3
          have Ho := Lib.hid hoq3
          have HB := Lib.hid hBq3
          clear hownq3 hBq3 hoq3 hgrowq3 hown hB
          go_wp2_with fail
          exact ⟨⟨k + 1, _, _, rfl, by omega, by go_num, He.out, by simp; omega, Ho.out, HB.out⟩, by simp [intOf]; omega⟩
      · have he2 : pre ++ [92, 110] ++ qList ((byt s).drop (k + 1)) = 34 :: qList (byt s) := by unfold qByte at he; rw [h1] at he; exact he
        have He := Lib.hid he2
        clear he he2 hqb
        go_wp2_with (at_builtin; refine wpList_append_own _ rfl _ _ 87 rfl w.heap.size 5 i0 _ 1 1 Tryd.underlying87 hi0 hz0 hz1 hz2 rfl (by decide) _ _ _ rfl (hown.alloc _) ⟨wr.heap.size, 0, none⟩ 2 2 [.int .u8 92, .int .u8 110] rfl rfl ?q5a ?q5b ?q5c ?q5d ?q5e ?_)
        try (case q5a => exact World.news_of_block (heap_alloc_new wr _))
        try (case q5b => simp [Value.oneCell'])
        try (case q5c => first | omega | (unfold maxLen; omega))
        try (case q5d => omega)
        try (case q5e => first | omega | (simp; omega))
        intro vq5 w4 hownq5 hgrowq5 _
        have hBq5 := (hB.alloc (hs1) (.cells #[.int .u8 92, .int .u8 110] 5)).grown hgrowq5 (by simp; omega) (fun g hg => (hown.lt g hg).1)
        have hoq5 : w4.ownsRow w.heap.size 5 1 vq5 (pre ++ [92, 110]).length (Lib.byteCells (pre ++ [92, 110])) := by
          rw [byteCells_append, List.length_append]; exact hownq5
        have Ho := Lib.hid hoq5
        have HB := Lib.hid hBq5
        clear hownq5 hBq5 hoq5 hgrowq5 hown hB
        go_wp2_with fail
        exact ⟨⟨k + 1, _, _, rfl, by omega, by go_num, He.out, by simp; omega, Ho.out, HB.out⟩, by simp [intOf]; omega⟩
    · have q : decide ((k : Int) < (s.size : Int)) = false := by simp; omega
      rw [qList_end (by rw [byt_length]; omega), List.append_nil] at he
      have He := Lib.hid he
      clear he Ho HB
      go_wp2_with (at_builtin; refine wpList_append_own _ rfl _ _ 87 rfl w.heap.size 5 i0 _ 1 1 Tryd.underlying87 hi0 hz0 hz1 hz2 rfl (by decide) _ _ _ rfl (hown.alloc _) ⟨wr.heap.size, 0, none⟩ 1 1 [.int .u8 34] rfl rfl ?q6a ?q6b ?q6c ?q6d ?q6e ?_)
      try (case q6a => exact World.news_of_block (heap_alloc_new wr _))
      try (case q6b => simp [Value.oneCell'])
      try (case q6c => first | omega | (unfold maxLen; omega))
      try (case q6d => omega)
      try (case q6e => first | omega | (simp; omega))
      intro vq6 w4 hownq6 hgrowq6 _
      have hBq6 := (hB.alloc (hs1) (.cells #[.int .u8 34] 5)).grown hgrowq6 (by simp; omega) (fun g hg => (hown.lt g hg).1)
      have hoq6 : w4.ownsRow w.heap.size 5 1 vq6 (pre ++ [34]).length (Lib.byteCells (pre ++ [34])) := by
        rw [byteCells_append, List.length_append]; exact hownq6
      have Ho := Lib.hid hoq6
      have HB := Lib.hid hBq6
      clear hownq6 hBq6 hoq6 hgrowq6 hown hB
      have hcv := convert_own Ho.out rfl
      go_wp2_with fail
      go_ret
      exact ⟨ret_s (by rw [He.out]; rfl), HB.out⟩

set_option maxRecDepth 100000 in
set_option maxHeartbeats 2000000 in
theorem RUnquote_any (s : ByteArray) (w : World) (hq : isTok (6, s) = true) :
    Calls Tryd.prog 47 #[.string s] w fun e w' => e = .returned (.string (unquoteR 6 s).1) ∧ Below w.heap.size w w' := by
  obtain ⟨i0, hi0, hz0, hz1, hz2⟩ := info_parts infoByteR
  have hr : Hid ((unquoteR 6 s).1 = mkB (unqF s.size (s.extract 1 s.size))) := Lib.hid (by unfold unquoteR; rw [if_pos ⟨rfl, hq⟩]; rfl)
  obtain ⟨z1, z2, z3⟩ := isTok_text hq
  have HX := Lib.hid z3
  clear z3 hq
  go_enter Tryd.func47, Tryd.ntmps47
  go_wp2_with fail
  go_loopw [3, 4, 5] (fun v i _ wr => ∃ (k f : Nat) (pre : List UInt8) (v0 : Value), v0 = v ∧ 1 ≤ k ∧ k < s.size ∧ i = .int .i64 k ∧ textF f (s.extract k s.size) k = some s.size ∧ s.size - k ≤ f ∧ pre ++ unqF f (s.extract k s.size) = unqF s.size (s.extract 1 s.size) ∧ pre.length ≤ k ∧ wr.ownsRow w.heap.size 5 1 v0 pre.length (Lib.byteCells pre) ∧ Below w.heap.size w wr) (fun _ i _ _ => s.size - (intOf i).toNat)
  case atStart => exact ⟨1, s.size, [], _, rfl, by omega, by omega, rfl, HX.out, by omega, rfl, by simp, World.ownsRow_nil _ _ _ _, Below.refl _ _⟩
  case round =>
    obtain ⟨k, f, pre, v, rfl, hk1, hk, rfl, ht, hf, he, hp, hown, hB⟩ := hrel
    have hs1 := hB.size
    have hsz := tail_size s k
    have hk0 : (0 : Int) ≤ (k : Int) := by omega
    have hks : (k : Int) < (s.size : Int) := by omega
    obtain ⟨f, rfl⟩ : ∃ f', f = f' + 1 := ⟨f - 1, by omega⟩
    simp only [textF, unqF] at ht he
    rw [if_neg (by omega)] at ht
    by_cases hlt : k + 1 < s.size
    · have hb0 := b0_tail hk
      have hlt2 : (k : Int) + 1 < (s.size : Int) := by omega
      have hb1 : b1 (s.extract k s.size) = s[k + 1]'hlt := by
        unfold b1
        rw [byt_drop, List.getD_eq_getElem?_getD, List.getElem?_drop, List.getElem?_eq_getElem (by rw [byt_length]; exact hlt)]; rfl
      have hst : 0 < (plainP (s.extract k s.size)).2 := by
        rcases Nat.eq_zero_or_pos (plainP (s.extract k s.size)).2 with h0 | h0
        · rw [if_neg (by omega)] at ht
          split at ht
          · injection ht with ht; omega
          · cases ht
        · exact h0
      rw [if_pos hst, tail_tail] at ht
      rw [if_neg (by omega), tail_tail] at he
      have hle := textF_le _ _ _ _ ht
      have sk1 : IntKind.i64.wrap ((k : Int) + 1) = (k : Int) + 1 := IntWalk.i64_in _ (by omega)
      cases h92 : (((s[k]'hk).toNat : Int) == 92)
      · have hC : plainC (s.extract k s.size) = s[k]'hk := by unfold plainC; rw [hb0, h92]; rfl
        have h1 : (plainP (s.extract k s.size)).2 = 1 := by
          unfold plainP at hst ⊢
          rw [hb0, h92] at hst ⊢
          split at hst
          · simp at hst
          · split at hst
            · simp at hst
            · rename_i e1 e2
              rw [if_neg e1, if_neg e2]; rfl
        rw [h1] at ht he
        rw [hC] at he
        rw [h1] at hle
        have Ht := Lib.hid ht
        have He := Lib.hid he
        clear ht he h1 hC hb0 hb1 hst
        go_wp2_with (at_builtin; refine wpList_append_own _ rfl _ _ 87 rfl w.heap.size 5 i0 _ 1 1 Tryd.underlying87 hi0 hz0 hz1 hz2 rfl (by decide) _ _ _ rfl (hown.alloc _) ⟨wr.heap.size, 0, none⟩ 1 1 [.int .u8 ((s[k]'hk).toNat : Int)] rfl rfl ?q7a ?q7b ?q7c ?q7d ?q7e ?_)
        try (case q7a => exact World.news_of_block (heap_alloc_new wr _))
        try (case q7b => simp [Value.oneCell'])
        try (case q7c => first | omega | (unfold maxLen; omega))
        try (case q7d => omega)
        try (case q7e => first | omega | (simp; omega))
        intro vq7 w4 hownq7 hgrowq7 _
        have hBq7 := (hB.alloc (hs1) (.cells #[.int .u8 ((s[k]'hk).toNat : Int)] 5)).grown hgrowq7 (by simp; omega) (fun g hg => (hown.lt g hg).1)
        have hoq7 : w4.ownsRow w.heap.size 5 1 vq7 (pre ++ [s[k]'hk]).length (Lib.byteCells (pre ++ [s[k]'hk])) := by
          rw [byteCells_append, List.length_append]; exact hownq7
        have Ho := Lib.hid hoq7
        have HB := Lib.hid hBq7
        clear hownq7 hBq7 hoq7 hgrowq7 hown hB
        go_wp2_with fail
        exact ⟨⟨k + 1, f, _, _, rfl, by omega, by omega, by go_num, Ht.out, by omega, by rw [List.append_assoc]; exact He.out, by simp; omega, Ho.out, HB.out⟩, by simp [intOf]; omega⟩
      · have hpl : plainP (s.extract k s.size) = pairP (s.extract k s.size) := by
          have e := eq_of_beq h92
          unfold plainP; rw [hb0, e]; rfl
        have h2 : (plainP (s.extract k s.size)).2 = 2 := by
          rw [hpl] at hst ⊢
          have := pairP_or (s.extract k s.size)
          omega
        rw [h2] at ht he hle
        have hk2 : k + 2 ≤ s.size := by omega
        have hk3 : (k : Int) + 1 < (s.size : Int) := by omega
        have hk4 : (0 : Int) ≤ (k : Int) + 1 := by omega
        cases h110 : (((s[k + 1]'hlt).toNat : Int) == 110)
        · have hC : plainC (s.extract k s.size) = s[k + 1]'hlt := by unfold plainC; rw [hb0, hb1, h92, h110]; rfl
          rw [hC] at he
          have Ht := Lib.hid ht
          have He := Lib.hid he
          clear ht he h2 hC hb0 hb1 hst hpl
          go_wp2_with (at_builtin; refine wpList_append_own _ rfl _ _ 87 rfl w.heap.size 5 i0 _ 1 1 Tryd.underlying87 hi0 hz0 hz1 hz2 rfl (by decide) _ _ _ rfl (hown.alloc _) ⟨wr.heap.size, 0, none⟩ 1 1 [.int .u8 ((s[k + 1]'hlt).toNat : Int)] rfl rfl ?q8a ?q8b ?q8c ?q8d ?q8e ?_)
          try (case q8a => exact World.news_of_block (heap_alloc_new wr _))
          try (case q8b => simp [Value.oneCell'])
          try (case q8c => first | omega | (unfold maxLen; omega))
          try (case q8d => omega)
          try (case q8e => first | omega | (simp; omega))
          intro vq8 w4 hownq8 hgrowq8 _
          have hBq8 := (hB.alloc (hs1) (.cells #[.int .u8 ((s[k + 1]'hlt).toNat : Int)] 5)).grown hgrowq8 (by simp; omega) (fun g hg => (hown.lt g hg).1)
          have hoq8 : w4.ownsRow w.heap.size 5 1 vq8 (pre ++ [s[k + 1]'hlt]).length (Lib.byteCells (pre ++ [s[k + 1]'hlt])) := by
            rw [byteCells_append, List.length_append]; exact hownq8
          have Ho := Lib.hid hoq8
          have HB := Lib.hid hBq8
          clear hownq8 hBq8 hoq8 hgrowq8 hown hB
          go_wp2_with fail
          exact ⟨⟨k + 2, f, _, _, rfl, by omega, by omega, by go_num, Ht.out, by omega, by rw [List.append_assoc]; exact He.out, by simp; omega, Ho.out, HB.out⟩, by simp [intOf]; omega⟩
        · have hC : plainC (s.extract k s.size) = 10 := by unfold plainC; rw [hb0, hb1, h92, h110]; rfl
          rw [hC] at he
          have Ht := Lib.hid ht
          have He := Lib.hid he
          clear ht he h2 hC hb0 hb1 hst hpl
          go_wp2_with (at_builtin; refine wpList_append_own _ rfl _ _ 87 rfl w.heap.size 5 i0 _ 1 1 Tryd.underlying87 hi0 hz0 hz1 hz2 rfl (by decide) _ _ _ rfl (hown.alloc _) ⟨wr.heap.size, 0, none⟩ 1 1 [.int .u8 10] rfl rfl ?q9a ?q9b ?q9c ?q9d ?q9e ?_)
          try (case q9a => exact World.news_of_block (heap_alloc_new wr _))
          try (case q9b => simp [Value.oneCell'])
          try (case q9c => first | omega | (unfold maxLen; omega))
          try (case q9d => omega)
          try (case q9e => first | omega | (simp; omega))
          intro vq9 w4 hownq9 hgrowq9 _
          have hBq9 := (hB.alloc (hs1) (.cells #[.int .u8 10] 5)).grown hgrowq9 (by simp; omega) (fun g hg => (hown.lt g hg).1)
          have hoq9 : w4.ownsRow w.heap.size 5 1 vq9 (pre ++ [10]).length (Lib.byteCells (pre ++ [10])) := by
            rw [byteCells_append, List.length_append]; exact hownq9
          have Ho := Lib.hid hoq9
          have HB := Lib.hid hBq9
          clear hownq9 hBq9 hoq9 hgrowq9 hown hB
          go_wp2_with fail
          exact ⟨⟨k + 2, f, _, _, rfl, by omega, by omega, by go_num, Ht.out, by omega, by rw [List.append_assoc]; exact He.out, by simp; omega, Ho.out, HB.out⟩, by simp [intOf]; omega⟩
    · have q : decide ((k : Int) + 1 < (s.size : Int)) = false := by simp; omega
      have q' : ¬ (k : Int) + 1 < (s.size : Int) := by omega
      rw [if_pos (by omega), List.append_nil] at he
      have He := Lib.hid he
      have hcv := convert_own hown rfl
      have HBf := Lib.hid hB
      clear he ht hown hB
      go_wp2_with fail
      go_ret
      exact ⟨ret_s (by rw [hr.out, He.out]), HBf.out⟩
end Go.Proofs.YtkaceghngjpemaaDoor
