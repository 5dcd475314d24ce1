/-
  A token alone is scanned as itself, and two neighbours as themselves.
-/
import Derived.Test.YtpjlgahbbmlngaaDoorTreeLeavesp10
import Derived.Test.YtpjlgahbbmlngaaDoorTreeLeavesp5
namespace Go.Proofs.YtpjlgahbbmlngaaDoor
set_option linter.unusedVariables false
set_option linter.unusedSimpArgs false

theorem split_at (s : ByteArray) (n : Nat) : s.extract 0 n ++ s.extract n s.size = s := by
  apply bytj; rw [byt_append, byt_take, byt_drop, List.take_append_drop]
theorem append_tail (x r : ByteArray) : (x ++ r).extract x.size (x ++ r).size = r := by
  apply bytj; rw [byt_drop, byt_append, ← byt_length, List.drop_left]
theorem append_head (x r : ByteArray) : (x ++ r).extract 0 x.size = x := by
  apply bytj; rw [byt_take, byt_append, ← byt_length, List.take_left]
theorem append_assoc' (a b c : ByteArray) : a ++ (b ++ c) = a ++ b ++ c := by
  apply bytj; rw [byt_append, byt_append, byt_append, byt_append, List.append_assoc]
theorem all_head (x : ByteArray) : x.extract 0 x.size = x := by
  apply bytj; rw [byt_take, ← byt_length, List.take_length]

/-- the end of a text, if it lies within a first part, is found in that part alone -/
theorem textF_pre : ∀ (f g : Nat) (a t : ByteArray) (k n : Nat), a.size ≤ f → textF g (a ++ t) k = some n → n ≤ k + a.size → textF f a k = some n
  | _, 0, _, _, _, _, _, h, _ => by cases h
  | 0, g + 1, a, t, k, n, hf, h, hn => by
    have := (textF_le _ _ _ _ h).1
    omega
  | f + 1, g + 1, a, t, k, n, hf, h, hn => by
    have h1 := (textF_le _ _ _ _ h).1
    have ha : 0 < a.size := by omega
    simp only [textF] at h ⊢
    rw [if_neg (by rw [size_append]; omega)] at h
    rw [if_neg (by omega)]
    by_cases h2 : 2 ≤ a.size ∨ ((b0 a).toNat : Int) ≠ 92
    · rw [plainP_append t ha h2] at h
      have hle := plainP_le (s := a) ha
      by_cases h3 : 0 < (plainP a).2
      · rw [if_pos h3, tail_append a t hle.1] at h
        rw [if_pos h3]
        have hz := tail_size a (plainP a).2
        exact textF_pre f g _ t _ n (by omega) h (by omega)
      · rw [if_neg h3, b0_append t ha] at h
        rw [if_neg h3]; exact h
    · exfalso
      have e1 : a.size = 1 := by omega
      have e2 : ((b0 a).toNat : Int) = 92 := by omega
      have e3 : ((b0 (a ++ t)).toNat : Int) = 92 := by rw [b0_append t ha]; exact e2
      have hp : plainP (a ++ t) = pairP (a ++ t) := by
        unfold plainP; rw [e3]; rfl
      have hp2 : (pairP (a ++ t)).2 = 0 ∨ (pairP (a ++ t)).2 = 2 := by
        unfold pairP; repeat' split
        all_goals simp
      rw [hp] at h
      rcases hp2 with hp2 | hp2
      · rw [hp2, if_neg (by omega), e3] at h
        simp at h
      · rw [hp2, if_pos (by omega)] at h
        have := (textF_le _ _ _ _ h).1
        omega

theorem preB_less {s p : ByteArray} (t : ByteArray) (h : preB (s ++ t) p = true) (hp : p.size ≤ s.size) : preB s p = true := by
  rw [preB_append t hp] at h; exact h
theorem signTo_pre {x : ByteArray} (t : ByteArray) : ∀ k, k ≤ 22 → 0 < signTo (x ++ t) k → signTo (x ++ t) k ≤ x.size → 0 < signTo x k
  | 0, _, h, _ => by simp [signTo] at h
  | k + 1, hk, h, hs => by
    simp only [signTo] at h hs ⊢
    have hpos := signs_pos k (by omega)
    by_cases h1 : preB x (signsB[k]?.getD ByteArray.empty) = true
    · rw [if_pos h1]; exact hpos
    · rw [if_neg h1]
      by_cases h2 : preB (x ++ t) (signsB[k]?.getD ByteArray.empty) = true
      · rw [if_pos h2] at hs
        exact absurd (preB_less t h2 hs) h1
      · rw [if_neg h2] at h hs
        exact signTo_pre t k (by omega) h hs

theorem firstP1 {s : ByteArray} (h : beginK s = 1) : firstP s = (1, runL blankB (byt s)) := by unfold firstP; rw [h]; rfl
theorem firstP2 {s : ByteArray} (h : beginK s = 2) : firstP s = (2, runL lineB (byt s)) := by unfold firstP; rw [h]; rfl
theorem firstP3 {s : ByteArray} (h : beginK s = 3) : firstP s = nameP s := by unfold firstP; rw [h]; rfl
theorem firstP5 {s : ByteArray} (h : beginK s = 5) : firstP s = (5, runL digitB (byt s)) := by unfold firstP; rw [h]; rfl
theorem firstP6 {s : ByteArray} (h : beginK s = 6) : firstP s = textP s := by unfold firstP; rw [h]; rfl
theorem firstP7 {s : ByteArray} (h : beginK s = 7) : firstP s = (7, signN s) := by unfold firstP; rw [h]; rfl
theorem firstP8 {s : ByteArray} (h : beginK s = 8) : firstP s = (8, badN s) := by unfold firstP; rw [h]; rfl

theorem slash_two {s : ByteArray} (h : preB s slashes = true) : 2 ≤ s.size := preB_le h
theorem run_slash {s : ByteArray} (h : preB s slashes = true) : 2 ≤ runL lineB (byt s) := by
  unfold preB at h
  simp only [Bool.and_eq_true, decide_eq_true_eq] at h
  have h2 : (byt s).take 2 = [47, 47] := by
    have := congrArg byt h.2
    rw [byt_take] at this
    exact this
  rw [← List.take_append_drop 2 (byt s), h2, run_all_append [47, 47] _ (by decide)]
  simp
theorem begin2 {s : ByteArray} (h : preB s slashes = true) : beginK s = 2 := by
  unfold beginK
  rw [preB_b0 h, h]; rfl

theorem beginK_self (x r : ByteArray) (hx : 0 < x.size) (h : (firstP (x ++ r)).2 = x.size) : beginK (x ++ r) = beginK x := by
  by_cases h2 : 2 ≤ x.size
  · exact beginK_append r h2
  · have e0 := b0_append r hx
    have p1 : preB x slashes = false := by
      cases hp : preB x slashes
      · rfl
      · exact absurd (slash_two hp) h2
    have p2 : preB (x ++ r) slashes = false := by
      cases hp : preB (x ++ r) slashes
      · rfl
      · rw [firstP2 (begin2 hp)] at h
        have := run_slash hp
        simp only at h
        omega
    by_cases h7 : beginK (x ++ r) = 7
    · rw [firstP7 h7] at h
      simp only at h
      have hs : 0 < signN x := signTo_pre r 22 (Nat.le_refl _) (by show 0 < signN (x ++ r); omega) (by show signN (x ++ r) ≤ x.size; omega)
      have hs2 : 0 < signN (x ++ r) := by omega
      unfold beginK
      rw [e0, p1, p2, if_pos hs, if_pos hs2]
    · by_cases h8 : beginK (x ++ r) = 8
      · rw [h8]
        by_cases h9 : beginK x = 8
        · exact h9.symm
        · exact absurd h8 (beginK_more r hx h9)
      · unfold beginK at h7 h8 ⊢
        rw [e0, p2] at h7 h8 ⊢
        rw [p1]
        repeat' split
        all_goals first | rfl | (exfalso; simp_all; done)

theorem wordB_head {x r : ByteArray} : (x ++ r).extract 0 x.size = x.extract 0 x.size := by rw [append_head, all_head]

/-- a first token, alone -/
theorem firstP_self (x r : ByteArray) (hx : 0 < x.size) (h : (firstP (x ++ r)).2 = x.size) : firstP x = firstP (x ++ r) := by
  have hle := firstP_le x hx
  have h2 : (firstP x).2 = x.size := by
    by_cases hlt : (firstP x).2 < x.size
    · rw [firstP_append x r hx hlt] at h; omega
    · omega
  refine Prod.ext ?_ (by omega)
  have hb := beginK_self x r hx h
  rcases beginK_is x with k | k | k | k | k | k | k
  · rw [firstP1 k, firstP1 (hb.trans k)]
  · rw [firstP2 k, firstP2 (hb.trans k)]
  · rw [firstP3 k] at h2 ⊢
    rw [firstP3 (hb.trans k)] at h ⊢
    unfold nameP at h h2 ⊢
    simp only at h h2 ⊢
    rw [h, h2, wordB_head]
  · rw [firstP5 k, firstP5 (hb.trans k)]
  · rw [firstP6 k] at h2 ⊢
    rw [firstP6 (hb.trans k)] at h ⊢
    unfold textP at h h2 ⊢
    have hz := tail_size x 1
    have ht := tail_append x r (k := 1) (by omega)
    have hsz := size_append x r
    cases h3 : textE (x ++ r) with
    | some m =>
      rw [h3] at h
      simp only at h
      have h4 : textE x = some m := by
        unfold textE at h3 ⊢
        rw [ht] at h3
        exact textF_pre _ _ _ r 1 m (by omega) h3 (by omega)
      rw [h4]
    | none =>
      cases h4 : textE x with
      | none => rfl
      | some m =>
        exfalso
        have : textE (x ++ r) = some m := by
          unfold textE at h4 ⊢
          rw [ht]
          exact textF_append _ _ _ r 1 m (by omega) h4
        rw [this] at h3; cases h3
  · rw [firstP7 k, firstP7 (hb.trans k)]
  · rw [firstP8 k, firstP8 (hb.trans k)]

theorem run_full {p : UInt8 → Bool} {l : List UInt8} (h : l.length ≤ runL p l) : ∀ x ∈ l, p x = true := by
  have := run_all (p := p) l
  rw [List.take_of_length_le h] at this
  exact this
theorem run_more {p : UInt8 → Bool} {z : ByteArray} (r : ByteArray) (h : z.size ≤ runL p (byt z)) : z.size ≤ runL p (byt (z ++ r)) := by
  rw [byt_append, run_all_append _ _ (run_full (by rw [byt_length]; exact h)), byt_length]
  omega
theorem badF_in (s : ByteArray) : ∀ (f k m : Nat), k ≤ m → m < badF f s k → beginK (s.extract m s.size) = 8
  | 0, k, m, h1, h2 => by simp only [badF] at h2; omega
  | f + 1, k, m, h1, h2 => by
    simp only [badF] at h2
    by_cases h8 : beginK (s.extract k s.size) = 8
    · rw [if_pos h8] at h2
      by_cases hk : k = m
      · rw [← hk]; exact h8
      · exact badF_in s f (k + 1) m (by omega) h2
    · rw [if_neg h8] at h2; omega
theorem badF_stop (s : ByteArray) : ∀ (f k : Nat), badF f s k < k + f → beginK (s.extract (badF f s k) s.size) ≠ 8
  | 0, k, h => by simp only [badF] at h; omega
  | f + 1, k, h => by
    simp only [badF] at h ⊢
    by_cases h8 : beginK (s.extract k s.size) = 8
    · rw [if_pos h8] at h ⊢
      exact badF_stop s f (k + 1) (by omega)
    · rw [if_neg h8]; exact h8

/-- two neighbours, alone -/
theorem firstP_two (x y r : ByteArray) (hx : 0 < x.size) (hy : 0 < y.size) (h1 : (firstP (x ++ y ++ r)).2 = x.size) (h2 : (firstP (y ++ r)).2 = y.size) : firstP (x ++ y) = firstP (x ++ y ++ r) := by
  have hxy := size_append x y
  have hz : 0 < (x ++ y).size := by omega
  have hle := firstP_le _ hz
  by_cases hlt : (firstP (x ++ y)).2 < (x ++ y).size
  · exact (firstP_append _ r hz hlt).symm
  · exfalso
    have h3 : (firstP (x ++ y)).2 = (x ++ y).size := by omega
    have hb := beginK_append (s := x ++ y) r (by omega)
    have hsz := size_append (x ++ y) r
    rcases beginK_is (x ++ y) with k | k | k | k | k | k | k
    · rw [firstP1 k] at h3; rw [firstP1 (hb.trans k)] at h1; simp only at h1 h3
      have := run_more r (Nat.le_of_eq h3.symm); omega
    · rw [firstP2 k] at h3; rw [firstP2 (hb.trans k)] at h1; simp only at h1 h3
      have := run_more r (Nat.le_of_eq h3.symm); omega
    · rw [firstP3 k] at h3; rw [firstP3 (hb.trans k)] at h1; unfold nameP at h1 h3; simp only at h1 h3
      have := run_more r (Nat.le_of_eq h3.symm); omega
    · rw [firstP5 k] at h3; rw [firstP5 (hb.trans k)] at h1; simp only at h1 h3
      have := run_more r (Nat.le_of_eq h3.symm); omega
    · rw [firstP6 k] at h3; rw [firstP6 (hb.trans k)] at h1
      unfold textP at h1 h3
      have hz1 := tail_size (x ++ y) 1
      have ht := tail_append (x ++ y) r (k := 1) (by omega)
      cases h4 : textE (x ++ y ++ r) with
      | some m =>
        rw [h4] at h1
        simp only at h1
        have h5 : textE (x ++ y) = some m := by
          unfold textE at h4 ⊢
          rw [ht] at h4
          exact textF_pre _ _ _ r 1 m (by omega) h4 (by omega)
        rw [h5] at h3
        simp only at h3
        omega
      | none =>
        rw [h4] at h1
        simp only at h1
        cases h5 : textE (x ++ y) with
        | some m =>
          have : textE (x ++ y ++ r) = some m := by
            unfold textE at h5 ⊢
            rw [ht]
            exact textF_append _ _ _ r 1 m (by omega) h5
          rw [this] at h4; cases h4
        | none =>
          rw [h5] at h3
          simp only at h3
          have := run_more r (Nat.le_of_eq h3.symm); omega
    · rw [firstP7 k] at h3; rw [firstP7 (hb.trans k)] at h1; simp only at h1 h3
      have : signN (x ++ y ++ r) = signN (x ++ y) := signTo_append r (by omega) 22 (Nat.le_refl _)
      omega
    · rw [firstP8 k] at h3; rw [firstP8 (hb.trans k)] at h1; simp only at h1 h3
      unfold badN at h1 h3
      have a1 := badF_in (x ++ y) _ 1 x.size (by omega) (by rw [h3]; omega)
      have a2 := badF_stop (x ++ y ++ r) ((x ++ y ++ r).size - 1) 1 (by rw [h1]; omega)
      rw [h1, ← append_assoc', append_tail] at a2
      rw [append_tail] at a1
      rw [beginK_self y r hy h2] at a2
      exact a2 a1

theorem lexL_one {x : ByteArray} {k : Int} (hx : 0 < x.size) (h : firstP x = (k, x.size)) : lexL x = [(k, x)] := by
  rw [lexL_step hx, h]
  simp only
  rw [all_head, lexL_nil (by rw [tail_size]; omega)]
/-- the first token of a string, alone -/
theorem lexL_first {s : ByteArray} (hz : 0 < s.size) : lexL (s.extract 0 (firstP s).2) = [((firstP s).1, s.extract 0 (firstP s).2)] := by
  have hle := firstP_le s hz
  have hxs : (s.extract 0 (firstP s).2).size = (firstP s).2 := by rw [ByteArray.size_extract]; omega
  have hs := split_at s (firstP s).2
  have h := firstP_self (s.extract 0 (firstP s).2) (s.extract (firstP s).2 s.size) (by omega) (by rw [hs]; exact hxs.symm)
  rw [hs] at h
  exact lexL_one (by omega) (by rw [h, hxs])
/-- each token, alone -/
theorem lexL_each : ∀ (n : Nat) (s : ByteArray), s.size ≤ n → ∀ p ∈ lexL s, lexL p.2 = [p] ∧ 0 < p.2.size
  | 0, s, h, p, hp => by rw [lexL_nil (by omega)] at hp; cases hp
  | n + 1, s, h, p, hp => by
    by_cases h0 : s.size = 0
    · rw [lexL_nil h0] at hp; cases hp
    · have hle := firstP_le s (by omega)
      have hz := tail_size s (firstP s).2
      rw [lexL_step (by omega)] at hp
      rcases List.mem_cons.1 hp with rfl | hp
      · exact ⟨lexL_first (by omega), by simp only [ByteArray.size_extract]; omega⟩
      · exact lexL_each n _ (by omega) p hp
/-- the texts of tokens, one after the other -/
def catL (l : List Tok) : List UInt8 := l.flatMap fun p => byt p.2
theorem catL_append (a b : List Tok) : catL (a ++ b) = catL a ++ catL b := by simp [catL]
theorem catL_lex : ∀ (n : Nat) (s : ByteArray), s.size ≤ n → catL (lexL s) = byt s
  | 0, s, h => by rw [lexL_nil (by omega), List.eq_nil_of_length_eq_zero (l := byt s) (by rw [byt_length]; omega)]; rfl
  | n + 1, s, h => by
    by_cases h0 : s.size = 0
    · rw [lexL_nil h0, List.eq_nil_of_length_eq_zero (l := byt s) (by rw [byt_length]; omega)]; rfl
    · have hle := firstP_le s (by omega)
      have hz := tail_size s (firstP s).2
      rw [lexL_step (by omega)]
      show byt (s.extract 0 (firstP s).2) ++ catL (lexL (s.extract (firstP s).2 s.size)) = _
      rw [catL_lex n _ (by omega), byt_take, byt_drop, List.take_append_drop]
/-- two neighbours, alone -/
theorem lexL_both : ∀ (n : Nat) (s : ByteArray), s.size ≤ n → ∀ (i : Nat) (p q : Tok), (lexL s)[i]? = some p → (lexL s)[i + 1]? = some q → lexL (p.2 ++ q.2) = [p, q] ∧ p.2.size + q.2.size ≤ s.size
  | 0, s, h, i, p, q, h1, _ => by rw [lexL_nil (by omega)] at h1; cases h1
  | n + 1, s, h, i, p, q, h1, h2 => by
    by_cases h0 : s.size = 0
    · rw [lexL_nil h0] at h1; cases h1
    · have hle := firstP_le s (by omega)
      have hz := tail_size s (firstP s).2
      rw [lexL_step (by omega)] at h1 h2
      rcases i with _ | i
      · rw [List.getElem?_cons_zero] at h1
        rw [Nat.zero_add, List.getElem?_cons_succ] at h2
        injection h1 with h1
        have hr : 0 < (s.extract (firstP s).2 s.size).size := by
          rcases Nat.eq_zero_or_pos (s.extract (firstP s).2 s.size).size with e | e
          · rw [lexL_nil e] at h2; cases h2
          · exact e
        obtain ⟨x, hx⟩ : ∃ x, x = s.extract 0 (firstP s).2 := ⟨_, rfl⟩
        obtain ⟨r, hrr⟩ : ∃ r, r = s.extract (firstP s).2 s.size := ⟨_, rfl⟩
        have hs : x ++ r = s := by rw [hx, hrr]; exact split_at s _
        have hxs : x.size = (firstP s).2 := by rw [hx, ByteArray.size_extract]; omega
        rw [← hrr] at h2 hr
        rw [← hx] at h1
        have hle2 := firstP_le r hr
        have hz2 := tail_size r (firstP r).2
        rw [lexL_step hr, List.getElem?_cons_zero] at h2
        injection h2 with h2
        obtain ⟨y, hy⟩ : ∃ y, y = r.extract 0 (firstP r).2 := ⟨_, rfl⟩
        obtain ⟨r2, hr2⟩ : ∃ r2, r2 = r.extract (firstP r).2 r.size := ⟨_, rfl⟩
        have hs2 : y ++ r2 = r := by rw [hy, hr2]; exact split_at r _
        have hys : y.size = (firstP r).2 := by rw [hy, ByteArray.size_extract]; omega
        rw [← hy] at h2
        have hall : x ++ y ++ r2 = s := by rw [← append_assoc', hs2, hs]
        have hf := firstP_two x y r2 (by omega) (by omega) (by rw [hall]; omega) (by rw [hs2]; omega)
        rw [hall] at hf
        have hxy := size_append x y
        have hsr := size_append x r
        rw [hs] at hsr
        subst h1 h2
        refine ⟨?_, by simp only; omega⟩
        show lexL (x ++ y) = _
        rw [lexL_step (by omega), hf, ← hxs]
        rw [append_head, append_tail]
        have := lexL_first hr
        rw [← hy] at this
        rw [this]
      · rw [List.getElem?_cons_succ] at h1 h2
        have := lexL_both n (s.extract (firstP s).2 s.size) (by omega) i p q h1 h2
        exact ⟨this.1, by omega⟩
theorem isTok_each {s : ByteArray} (hs : s.size ≤ 20000) {p : Tok} (h : p ∈ lexL s) (hp : p.2.size ≤ s.size) : isTok p = true := by
  unfold isTok lexesB
  rw [(lexL_each _ s (Nat.le_refl _) p h).1, decide_eq_true (by omega), decide_eq_true rfl]; rfl
theorem apart_both {s : ByteArray} (hs : s.size ≤ 20000) {i : Nat} {p q : Tok} (h1 : (lexL s)[i]? = some p) (h2 : (lexL s)[i + 1]? = some q) (hp : isTok p = true) (hq : isTok q = true) : apartB p q = true := by
  have := lexL_both _ s (Nat.le_refl _) i p q h1 h2
  unfold apartB lexesB
  rw [hp, hq, this.1, decide_eq_true (by rw [size_append]; omega), decide_eq_true rfl]; rfl
end Go.Proofs.YtpjlgahbbmlngaaDoor
