/-
  Contracts of the specification's begins and quoted.; Plain mathematics of layer 3: the tokens of a string that ends with a line feed, and of what comes behind it: two blanks become one.
-/
import Derived.Test.YtpjlgahbbmlngaaDoorTreeLeavesp9
import Derived.Test.YtpjlgahbbmlngaaDoorTreeLeavesp8
namespace Go.Proofs.YtpjlgahbbmlngaaDoor
set_option linter.unusedVariables false
set_option linter.unusedSimpArgs false
open Go.RowKit

set_option maxRecDepth 100000 in
set_option maxHeartbeats 1000000 in
theorem RBegins_any (t : ByteArray) (k : Nat) (w : World) (ht : t.size ≤ 60000) (hk : k < t.size) :
    Calls Tryd.prog 95 #[.string t, .int .i64 (k : Int)] w fun e w' => e = .returned (.bool (beginsB (t.extract k t.size))) ∧ Below w.heap.size w w' := by
  have hz := tail_size t k
  have hb0 := b0_tail hk
  have hk0 : (0 : Int) ≤ (k : Int) := by omega
  have hk9 : (k : Int) < (t.size : Int) := by omega
  have hrem := remark_any t k w ht hk
  have hsig := sign_any t k w ht hk
  cases h1 : blankB (t[k]'hk)
  case true =>
    have hr : Hid (beginsB (t.extract k t.size) = true) := Lib.hid (by unfold beginsB; rw [hb0, h1]; rfl)
    clear hb0 hrem hsig
    go_enter Tryd.func95, Tryd.ntmps95
    go_wp2_with fail
    refine (RBlank_any _ _).mono ?_
    rw [h1]
    rintro e w1 ⟨rfl, rfl⟩
    go_wp2_with fail
    go_ret
    exact ⟨ret_b hr.out.symm, Below.refl _ _⟩
  case false =>
  cases h2 : letterB (t[k]'hk)
  case true =>
    have hr : Hid (beginsB (t.extract k t.size) = true) := Lib.hid (by unfold beginsB; rw [hb0, h1, h2]; rfl)
    clear hb0 hrem hsig
    go_enter Tryd.func95, Tryd.ntmps95
    go_wp2_with fail
    refine (RBlank_any _ _).mono ?_
    rw [h1]
    rintro e w1 ⟨rfl, rfl⟩
    go_wp2_with fail
    refine (RLetter_any _ _).mono ?_
    rw [h2]
    rintro e w1 ⟨rfl, rfl⟩
    go_wp2_with fail
    go_ret
    exact ⟨ret_b hr.out.symm, Below.refl _ _⟩
  case false =>
  cases h3 : digitB (t[k]'hk)
  case true =>
    have hr : Hid (beginsB (t.extract k t.size) = true) := Lib.hid (by unfold beginsB; rw [hb0, h1, h2, h3]; rfl)
    clear hb0 hrem hsig
    go_enter Tryd.func95, Tryd.ntmps95
    go_wp2_with fail
    refine (RBlank_any _ _).mono ?_
    rw [h1]
    rintro e w1 ⟨rfl, rfl⟩
    go_wp2_with fail
    refine (RLetter_any _ _).mono ?_
    rw [h2]
    rintro e w1 ⟨rfl, rfl⟩
    go_wp2_with fail
    refine (RDigit_any _ _).mono ?_
    rw [h3]
    rintro e w1 ⟨rfl, rfl⟩
    go_wp2_with fail
    go_ret
    exact ⟨ret_b hr.out.symm, Below.refl _ _⟩
  case false =>
  cases h4 : (((t[k]'hk).toNat : Int) == 34)
  case true =>
    have hr : Hid (beginsB (t.extract k t.size) = true) := Lib.hid (by unfold beginsB; rw [hb0, h1, h2, h3, h4]; rfl)
    clear hb0 hrem hsig
    go_enter Tryd.func95, Tryd.ntmps95
    go_wp2_with fail
    refine (RBlank_any _ _).mono ?_
    rw [h1]
    rintro e w1 ⟨rfl, rfl⟩
    go_wp2_with fail
    refine (RLetter_any _ _).mono ?_
    rw [h2]
    rintro e w1 ⟨rfl, rfl⟩
    go_wp2_with fail
    refine (RDigit_any _ _).mono ?_
    rw [h3]
    rintro e w1 ⟨rfl, rfl⟩
    go_wp2_with fail
    go_ret
    exact ⟨ret_b hr.out.symm, Below.refl _ _⟩
  case false =>
  cases h5 : preB (t.extract k t.size) slashes
  case true =>
    have hr : Hid (beginsB (t.extract k t.size) = true) := Lib.hid (by unfold beginsB; rw [hb0, h1, h2, h3, h4, h5]; rfl)
    rw [h5] at hrem
    have Hrem := Lib.hid hrem
    clear hb0 hrem hsig
    go_enter Tryd.func95, Tryd.ntmps95
    go_wp2_with fail
    refine (RBlank_any _ _).mono ?_
    rw [h1]
    rintro e w1 ⟨rfl, rfl⟩
    go_wp2_with fail
    refine (RLetter_any _ _).mono ?_
    rw [h2]
    rintro e w1 ⟨rfl, rfl⟩
    go_wp2_with fail
    refine (RDigit_any _ _).mono ?_
    rw [h3]
    rintro e w1 ⟨rfl, rfl⟩
    go_wp2_with fail
    refine Hrem.out.mono ?_
    rintro e w1 ⟨rfl, rfl⟩
    go_wp2_with fail
    go_ret
    exact ⟨ret_b hr.out.symm, Below.refl _ _⟩
  case false =>
    rw [h5] at hrem
    by_cases h6 : 0 < signN (t.extract k t.size)
    all_goals
      have q6 : decide ((0 : Int) < (signN (t.extract k t.size) : Int)) = decide (0 < signN (t.extract k t.size)) := by
        rw [decide_eq_decide]; omega
      have hr : beginsB (t.extract k t.size) = decide (0 < signN (t.extract k t.size)) := by unfold beginsB; rw [hb0, h1, h2, h3, h4, h5]; rfl
      generalize signN (t.extract k t.size) = sn at *
      first
      | rw [decide_eq_true h6] at q6 hr
      | rw [decide_eq_false h6] at q6 hr
      have Hr := Lib.hid hr
      have Hrem := Lib.hid hrem
      have Hsig := Lib.hid hsig
      clear hb0 hrem hsig hr
      go_enter Tryd.func95, Tryd.ntmps95
      go_wp2_with fail
      refine (RBlank_any _ _).mono ?_
      rw [h1]
      rintro e w1 ⟨rfl, rfl⟩
      go_wp2_with fail
      refine (RLetter_any _ _).mono ?_
      rw [h2]
      rintro e w1 ⟨rfl, rfl⟩
      go_wp2_with fail
      refine (RDigit_any _ _).mono ?_
      rw [h3]
      rintro e w1 ⟨rfl, rfl⟩
      go_wp2_with fail
      refine Hrem.out.mono ?_
      rintro e w1 ⟨rfl, rfl⟩
      go_wp2_with fail
      refine Hsig.out.mono ?_
      rintro e w2 ⟨rfl, hb2⟩
      go_wp2_with fail
      go_ret
      exact ⟨ret_b Hr.out.symm, hb2⟩

/-- where the text that begins at a place ends, or 0 -/
def quotedN (s : ByteArray) (k : Nat) : Nat := match textE s with
  | some n => k + n
  | none => 0

set_option maxRecDepth 100000 in
set_option maxHeartbeats 1000000 in
theorem quoted_any (t : ByteArray) (k : Nat) (w : World) (ht : t.size ≤ 60000) (hk : k < t.size) :
    Calls Tryd.prog 93 #[.string t, .int .i64 (k : Int)] w fun e w' => e = .returned (.int .i64 ((quotedN (t.extract k t.size) k : Nat) : Int)) ∧ w' = w := by
  have hz := tail_size t k
  have hk0 : (0 : Int) ≤ (k : Int) := by omega
  have hk9 : (k : Int) < (t.size : Int) := by omega
  have h0 : textE (t.extract k t.size) = textF (t.extract k t.size).size (t.extract (k + 1) t.size) 1 := by
    unfold textE; rw [tail_tail]
  have H0 := Lib.hid h0
  clear h0
  go_enter Tryd.func93, Tryd.ntmps93
  go_wp2_with fail
  go_loopw [5, 17, 21, 23] (fun i _ _ _ wr => ∃ j f : Nat, k + 1 ≤ j ∧ j ≤ t.size ∧ i = .int .i64 j ∧ textE (t.extract k t.size) = textF f (t.extract j t.size) (j - k) ∧ t.size - j ≤ f ∧ wr = w) (fun i _ _ _ _ => t.size - (intOf i).toNat)
  case atStart => exact ⟨k + 1, (t.extract k t.size).size, by omega, by omega, rfl, by rw [H0.out, show k + 1 - k = 1 by omega], by omega, rfl⟩
  case round =>
    obtain ⟨j, f, hj1, hj, rfl, he, hf, rfl⟩ := hrel
    have hj0 : (0 : Int) ≤ (j : Int) := by omega
    by_cases hlt : j < t.size
    · have hjs : (j : Int) < (t.size : Int) := by omega
      have hsz := tail_size t j
      have hb0 := b0_tail hlt
      obtain ⟨f, rfl⟩ : ∃ f', f = f' + 1 := ⟨f - 1, by omega⟩
      simp only [textF] at he
      rw [if_neg (by omega), hb0] at he
      have sk1 : IntKind.i64.wrap ((j : Int) + 1) = (j : Int) + 1 := IntWalk.i64_in _ (by omega)
      cases h1 : (((t[j]'hlt).toNat : Int) == 34)
      · cases h2 : (((t[j]'hlt).toNat : Int) == 10)
        · cases h3 : (((t[j]'hlt).toNat : Int) == 92)
          · have hp : (plainP (t.extract j t.size)).2 = 1 := by unfold plainP; rw [hb0, h1, h2, h3]; rfl
            rw [hp, if_pos (by omega), tail_tail] at he
            have He := Lib.hid he
            clear he hb0 hp
            go_wp2_with fail
            exact ⟨⟨j + 1, f, by omega, by omega, by go_num, by rw [He.out, show j + 1 - k = j - k + 1 by omega], by omega, by first | rfl | trivial⟩, by simp [intOf]; omega⟩
          · have hp : plainP (t.extract j t.size) = pairP (t.extract j t.size) := by unfold plainP; rw [hb0, h1, h2, h3]; rfl
            rw [hp] at he
            by_cases hl1 : j + 1 < t.size
            · have hl2 : (j : Int) + 1 < (t.size : Int) := by omega
              have q1 : ((j : Int) + 1 == (t.size : Int)) = false := by simp; omega
              have hb1 : b1 (t.extract j t.size) = t[j + 1]'hl1 := by
                unfold b1
                rw [byt_drop, List.getD_eq_getElem?_getD, List.getElem?_drop, List.getElem?_eq_getElem (by rw [byt_length]; exact hl1)]; rfl
              unfold pairP at he
              rw [if_neg (show ¬ (t.extract j t.size).size < 2 by omega), hb1] at he
              by_cases h4 : ((t[j + 1]'hl1).toNat : Int) = 110 ∨ ((t[j + 1]'hl1).toNat : Int) = 34 ∨ ((t[j + 1]'hl1).toNat : Int) = 92
              · have hst : (if (((t[j + 1]'hl1).toNat : Int) == 110) = true then ((10, 2) : Int × Nat) else if (((t[j + 1]'hl1).toNat : Int) == 34) = true then (((t[j + 1]'hl1).toNat : Int), 2) else if (((t[j + 1]'hl1).toNat : Int) == 92) = true then (((t[j + 1]'hl1).toNat : Int), 2) else (0, 0)).2 = 2 := by
                  rcases h4 with h | h | h <;> rw [h] <;> rfl
                rw [hst, if_pos (by omega), tail_tail] at he
                have He := Lib.hid he
                clear he hb0 hb1 hp hst
                rcases h4 with h4 | h4 | h4
                · have p1 : (((t[j + 1]'hl1).toNat : Int) != 110) = false := by simp [h4]
                  clear h4
                  go_wp2_with fail
                  exact ⟨⟨j + 2, f, by omega, by omega, by go_num, by rw [He.out, show j + 2 - k = j - k + 2 by omega], by omega, by first | rfl | trivial⟩, by simp [intOf]; omega⟩
                · have p1 : (((t[j + 1]'hl1).toNat : Int) != 110) = true := by simp [h4]
                  have p2 : (((t[j + 1]'hl1).toNat : Int) != 34) = false := by simp [h4]
                  clear h4
                  go_wp2_with fail
                  exact ⟨⟨j + 2, f, by omega, by omega, by go_num, by rw [He.out, show j + 2 - k = j - k + 2 by omega], by omega, by first | rfl | trivial⟩, by simp [intOf]; omega⟩
                · have p1 : (((t[j + 1]'hl1).toNat : Int) != 110) = true := by simp [h4]
                  have p2 : (((t[j + 1]'hl1).toNat : Int) != 34) = true := by simp [h4]
                  have p3 : (((t[j + 1]'hl1).toNat : Int) != 92) = false := by simp [h4]
                  clear h4
                  go_wp2_with fail
                  exact ⟨⟨j + 2, f, by omega, by omega, by go_num, by rw [He.out, show j + 2 - k = j - k + 2 by omega], by omega, by first | rfl | trivial⟩, by simp [intOf]; omega⟩
              · have n1 : (((t[j + 1]'hl1).toNat : Int) == 110) = false := by simp; omega
                have n2 : (((t[j + 1]'hl1).toNat : Int) == 34) = false := by simp; omega
                have n3 : (((t[j + 1]'hl1).toNat : Int) == 92) = false := by simp; omega
                have p1 : (((t[j + 1]'hl1).toNat : Int) != 110) = true := by simp; omega
                have p2 : (((t[j + 1]'hl1).toNat : Int) != 34) = true := by simp; omega
                have p3 : (((t[j + 1]'hl1).toNat : Int) != 92) = true := by simp; omega
                rw [n1, n2, n3, h1] at he
                have hr : Hid (quotedN (t.extract k t.size) k = 0) := Lib.hid (by unfold quotedN; rw [he]; rfl)
                clear he hb0 hb1 hp h4 n1 n2 n3
                go_wp2_with fail
                go_ret
                exact ⟨ret_i hr.out.symm, rfl⟩
            · have q1 : ((j : Int) + 1 == (t.size : Int)) = true := by simp; omega
              unfold pairP at he
              rw [if_pos (show (t.extract j t.size).size < 2 by omega), h1] at he
              have hr : Hid (quotedN (t.extract k t.size) k = 0) := Lib.hid (by unfold quotedN; rw [he]; rfl)
              clear he hb0 hp
              go_wp2_with fail
              go_ret
              exact ⟨ret_i hr.out.symm, rfl⟩
        · have hp : (plainP (t.extract j t.size)).2 = 0 := by unfold plainP; rw [hb0, h1, h2]; rfl
          rw [hp, if_neg (by omega), h1] at he
          have hr : Hid (quotedN (t.extract k t.size) k = 0) := Lib.hid (by unfold quotedN; rw [he]; rfl)
          clear he hb0 hp
          go_wp2_with fail
          go_ret
          exact ⟨ret_i hr.out.symm, rfl⟩
      · have hp : (plainP (t.extract j t.size)).2 = 0 := by unfold plainP; rw [hb0, h1]; rfl
        rw [hp, if_neg (by omega), h1] at he
        have hr : Hid (quotedN (t.extract k t.size) k = j + 1) := Lib.hid (by
          unfold quotedN; rw [he]
          show k + (j - k + 1) = j + 1
          omega)
        clear he hb0 hp
        go_wp2_with fail
        go_ret
        exact ⟨ret_i hr.out.symm, rfl⟩
    · have hn : textE (t.extract k t.size) = none := he.trans (textF_nil _ _ _ (by rw [tail_size]; omega))
      have hr : Hid (quotedN (t.extract k t.size) k = 0) := Lib.hid (by unfold quotedN; rw [hn])
      clear he hn
      go_wp2_with fail
      go_ret
      exact ⟨ret_i hr.out.symm, rfl⟩
end Go.Proofs.YtpjlgahbbmlngaaDoor

namespace Go.Proofs.YtpjlgahbbmlngaaDoor
set_option linter.unusedVariables false
set_option linter.unusedSimpArgs false

/-- a token put behind others: a blank behind a blank becomes one with it -/
def pushT (acc : List Tok) (p : Tok) : List Tok :=
  match acc.getLast? with
  | some q => if q.1 = 1 ∧ p.1 = 1 then acc.dropLast ++ [(q.1, q.2 ++ p.2)] else acc ++ [p]
  | none => acc ++ [p]
def mergeT (acc m : List Tok) : List Tok := m.foldl pushT acc
theorem pushT_nil (p : Tok) : pushT [] p = [p] := rfl
theorem pushT_snoc (acc : List Tok) (q p : Tok) : pushT (acc ++ [q]) p = if q.1 = 1 ∧ p.1 = 1 then acc ++ [(q.1, q.2 ++ p.2)] else acc ++ [q] ++ [p] := by
  unfold pushT
  rw [List.getLast?_concat, List.dropLast_concat]
theorem mergeT_snoc (acc m : List Tok) (p : Tok) : mergeT acc (m ++ [p]) = pushT (mergeT acc m) p := by unfold mergeT; rw [List.foldl_append]; rfl
theorem mergeT_cons (acc m : List Tok) (p : Tok) : mergeT acc (p :: m) = mergeT (pushT acc p) m := rfl
/-- no two blanks meet -/
def NoTwo (l : List Tok) : Prop := ∀ (i : Nat) (p q : Tok), l[i]? = some p → l[i + 1]? = some q → ¬ (p.1 = 1 ∧ q.1 = 1)
theorem noTwo_tail {p : Tok} {l : List Tok} (h : NoTwo (p :: l)) : NoTwo l := fun i a b ha hb => h (i + 1) a b (by rw [List.getElem?_cons_succ]; exact ha) (by rw [List.getElem?_cons_succ]; exact hb)
theorem mergeT_plain : ∀ (m : List Tok) (acc : List Tok) (q : Tok), NoTwo (q :: m) → mergeT (acc ++ [q]) m = acc ++ [q] ++ m
  | [], acc, q, _ => by simp [mergeT]
  | p :: m, acc, q, h => by
    have h0 := h 0 q p rfl rfl
    rw [mergeT_cons, pushT_snoc, if_neg h0, mergeT_plain m (acc ++ [q]) p (noTwo_tail h)]
    simp
theorem lexL_two (s : ByteArray) : NoTwo (lexL s) := fun i p q h1 h2 => by
  have h := lexL_pair s.size s (Nat.le_refl _) i p q h1 h2
  intro hh
  unfold badPair at h
  rw [hh.1, hh.2] at h
  simp at h
theorem mergeT_nil (s : ByteArray) : mergeT [] (lexL s) = lexL s := by
  have h := lexL_two s
  cases hl : lexL s with
  | nil => rfl
  | cons p m =>
    rw [hl] at h
    rw [mergeT_cons, pushT_nil]
    exact mergeT_plain m [] p h
def allBlank (z : ByteArray) : Prop := ∀ x ∈ byt z, blankB x = true
theorem run_all_append {p : UInt8 → Bool} : ∀ (a b : List UInt8), (∀ x ∈ a, p x = true) → runL p (a ++ b) = a.length + runL p b
  | [], b, _ => by simp
  | c :: a, b, h => by
    simp only [runL, List.cons_append]
    rw [if_pos (h c (by simp)), run_all_append a b (fun x hx => h x (by simp [hx]))]
    simp only [List.length_cons]
    omega
theorem b0_mem {s : ByteArray} (hz : 0 < s.size) : b0 s ∈ byt s := List.mem_of_mem_head? (b0_head hz)
/-- blanks, and what comes behind them -/
theorem lexL_blank {z : ByteArray} (b : ByteArray) (hz : 0 < z.size) (ha : allBlank z) :
    lexL (z ++ b) = (1, z ++ b.extract 0 (runL blankB (byt b))) :: lexL (b.extract (runL blankB (byt b)) b.size) := by
  have hsz := size_append z b
  have hk : beginK (z ++ b) = 1 := by
    unfold beginK
    rw [b0_append b hz, ha _ (b0_mem hz)]; rfl
  have hf : firstP (z ++ b) = (1, z.size + runL blankB (byt b)) := by
    unfold firstP
    rw [hk]
    show (1, runL blankB (byt (z ++ b))) = _
    rw [byt_append, run_all_append _ _ ha, byt_length]
  have hle := runL_le blankB (byt b)
  rw [byt_length] at hle
  rw [lexL_step (by omega), hf]
  have e1 : (z ++ b).extract 0 (z.size + runL blankB (byt b)) = z ++ b.extract 0 (runL blankB (byt b)) := by
    apply bytj
    rw [byt_take, byt_append, byt_append, byt_take, ← byt_length z, List.take_length_add_append]
  have e2 : (z ++ b).extract (z.size + runL blankB (byt b)) (z ++ b).size = b.extract (runL blankB (byt b)) b.size := by
    apply bytj
    rw [byt_drop, byt_append, byt_drop, ← byt_length z, List.drop_length_add_append]
  simp only
  rw [e1, e2]
/-- a string that ends with a line feed: its last token is a blank, and all others stay as they are -/
theorem lexL_fed : ∀ (n : Nat) (a : ByteArray), a.size ≤ n → 0 < a.size → (byt a).getLast? = some 10 →
    ∃ (init : List Tok) (z : ByteArray), lexL a = init ++ [(1, z)] ∧ 0 < z.size ∧ allBlank z ∧ ∀ b, lexL (a ++ b) = init ++ lexL (z ++ b)
  | 0, a, h, hz, _ => by omega
  | n + 1, a, h, hz, hl => by
    have hle := firstP_le a hz
    have hst := lexL_step hz
    have hts := tail_size a (firstP a).2
    by_cases hlt : (firstP a).2 < a.size
    · have hl2 : (byt (a.extract (firstP a).2 a.size)).getLast? = some 10 := by
        rw [byt_drop, List.getLast?_drop, if_neg (by rw [byt_length]; omega)]; exact hl
      obtain ⟨init, z, h1, h2, h3, h4⟩ := lexL_fed n (a.extract (firstP a).2 a.size) (by omega) (by omega) hl2
      refine ⟨((firstP a).1, a.extract 0 (firstP a).2) :: init, z, by rw [hst, h1]; rfl, h2, h3, fun b => ?_⟩
      have hst2 := lexL_step (s := a ++ b) (by rw [size_append]; omega)
      rw [hst2, firstP_append a b hz hlt, head_append a b (by omega), tail_append a b (by omega), h4 b]
      rfl
    · have hn : (firstP a).2 = a.size := by omega
      have hk : (firstP a).1 = 1 := by
        by_cases h1 : (firstP a).1 = 1
        · exact h1
        · exfalso
          have hnf := firstP_nf a hz h1
          rw [hn, ← byt_length, List.take_length] at hnf
          have := hnf 10 (List.mem_of_getLast? hl)
          exact absurd this (by decide)
      have hb := (firstP_kinds a).1 hk
      have hr : (firstP a).2 = runL blankB (byt a) := by unfold firstP; rw [hb]; rfl
      refine ⟨[], a, ?_, hz, ?_, fun b => rfl⟩
      · rw [hst, hk, hn, lexL_nil (by rw [tail_size]; omega)]
        have : a.extract 0 a.size = a := by apply bytj; rw [byt_drop, List.drop_zero]
        rw [this]; rfl
      · intro x hx
        refine run_all (byt a) x ?_
        rw [← hr, hn, ← byt_length, List.take_length]
        exact hx
/-- the tokens of a string that is empty or ends with a line feed, and of what comes behind it -/
theorem lexL_lines (a b : ByteArray) (ha : a.size = 0 ∨ (byt a).getLast? = some 10) : lexL (a ++ b) = mergeT (lexL a) (lexL b) := by
  by_cases hz : a.size = 0
  · have he : a ++ b = b := by
      apply bytj
      rw [byt_append, List.eq_nil_of_length_eq_zero (l := byt a) (by rw [byt_length]; exact hz)]; rfl
    rw [he, lexL_nil hz, mergeT_nil]
  · have hl : (byt a).getLast? = some 10 := by
      rcases ha with ha | ha
      · exact absurd ha hz
      · exact ha
    obtain ⟨init, z, h1, h2, h3, h4⟩ := lexL_fed a.size a (Nat.le_refl _) (by omega) hl
    rw [h4 b, h1, lexL_blank b h2 h3]
    have htwo := lexL_two (z ++ b)
    rw [lexL_blank b h2 h3] at htwo
    by_cases hr : runL blankB (byt b) = 0
    · have e1 : z ++ b.extract 0 0 = z := by
        apply bytj
        rw [byt_append, byt_take]; simp
      have e2 : b.extract 0 b.size = b := by apply bytj; rw [byt_drop, List.drop_zero]
      rw [hr, e1, e2] at htwo ⊢
      rw [mergeT_plain _ _ _ htwo]
      simp
    · have hle := runL_le blankB (byt b)
      rw [byt_length] at hle
      have hbz : 0 < b.size := by omega
      have hkb : beginK b = 1 := by
        have hb0 : blankB (b0 b) = true := run_all (byt b) _ (by
          have hh := b0_head hbz
          cases hc : byt b with
          | nil => rw [hc] at hr; exact absurd rfl hr
          | cons c l =>
            rw [hc] at hh hr
            have hcc : c = b0 b := Option.some.inj hh
            obtain ⟨m, hm⟩ : ∃ m, runL blankB (c :: l) = m + 1 := ⟨runL blankB (c :: l) - 1, by omega⟩
            rw [hm, List.take_succ_cons, hcc]
            simp)
        unfold beginK; rw [hb0]; rfl
      have hfb : firstP b = (1, runL blankB (byt b)) := by unfold firstP; rw [hkb]; rfl
      have hstb := lexL_step hbz
      rw [hfb] at hstb
      simp only at hstb
      rw [hstb, mergeT_cons, pushT_snoc, if_pos ⟨rfl, rfl⟩, mergeT_plain _ _ _ htwo]
      simp
end Go.Proofs.YtpjlgahbbmlngaaDoor
