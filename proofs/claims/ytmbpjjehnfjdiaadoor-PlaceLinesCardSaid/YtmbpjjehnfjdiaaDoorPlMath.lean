/-
  Plain mathematics of lines and columns.
-/
import Derived.Test.YtmbpjjehnfjdiaaDoorChMath
import Derived.Lib.Bytealg
import Derived.Lib.LastIndexByte
namespace Go.Proofs.YtmbpjjehnfjdiaaDoor
set_option linter.unusedVariables false
set_option linter.unusedSimpArgs false

/-- where line i begins -/
def lst (x : List UInt8) (i : Nat) : Nat := if i = 0 then 0 else feedAt x (i - 1) + 1
theorem lst_zero (x : List UInt8) : lst x 0 = 0 := rfl
theorem lst_succ (x : List UInt8) (i : Nat) : lst x (i + 1) = feedAt x i + 1 := by simp [lst]
theorem lineAt_lst (x : List UInt8) (n : Nat) : lineAt x n = ((lst x n : Int), (feedAt x n : Int)) := by
  unfold lineAt lst
  by_cases h : n = 0
  · simp [h]
  · simp [h]
theorem feedAt_take (x : List UInt8) (o : Nat) (h : o ≤ x.length) : feedAt x (feedsL (x.take o)) = o + feedAt (x.drop o) 0 := by
  have h1 := feedAt_right (x.take o) (x.drop o) (feedsL (x.take o)) (Nat.le_refl _)
  rw [List.take_append_drop, List.length_take, Nat.min_eq_left h, Nat.sub_self] at h1
  exact h1
theorem feedAt_is : ∀ (x : List UInt8) (i : Nat), i < feedsL x → x[feedAt x i]? = some 10 ∧ feedsL (x.take (feedAt x i)) = i
  | [], i, h => by simp [feedsL] at h
  | a :: x, i, h => by
    rw [feedsL_cons] at h
    by_cases ha : a = 10
    · subst ha
      cases i with
      | zero => simp [feedAt, feedsL]
      | succ i =>
        obtain ⟨h1, h2⟩ := feedAt_is x i (by simp at h; omega)
        rw [feedAt_feed_succ]
        refine ⟨by simpa using h1, ?_⟩
        rw [List.take_succ_cons, feedsL_cons, h2]; simp; omega
    · rw [if_neg ha] at h
      obtain ⟨h1, h2⟩ := feedAt_is x i (by omega)
      rw [feedAt_other _ _ ha]
      refine ⟨by simpa using h1, ?_⟩
      rw [List.take_succ_cons, feedsL_cons, h2, if_neg ha]; omega
theorem lst_feeds (x : List UInt8) (i : Nat) (h : i ≤ feedsL x) : feedsL (x.take (lst x i)) = i ∧ lst x i ≤ x.length := by
  cases i with
  | zero => simp [lst_zero, feedsL]
  | succ i =>
    obtain ⟨h1, h2⟩ := feedAt_is x i (by omega)
    have hl := feedAt_lt x i (by omega)
    rw [lst_succ]
    refine ⟨?_, hl⟩
    rw [feedsL_take x _ hl, h2]
    have : x[feedAt x i] = 10 := by rw [List.getElem?_eq_getElem hl] at h1; exact Option.some.inj h1
    rw [if_pos this]
theorem feedAt_lst (x : List UInt8) (i : Nat) (h : i ≤ feedsL x) : feedAt x i = lst x i + feedAt (x.drop (lst x i)) 0 := by
  obtain ⟨h1, h2⟩ := lst_feeds x i h
  have := feedAt_take x _ h2
  rwa [h1] at this
theorem lst_le_feedAt (x : List UInt8) (i : Nat) (h : i ≤ feedsL x) : lst x i ≤ feedAt x i := by rw [feedAt_lst x i h]; omega
theorem feedsL_zero_take : ∀ (l : List UInt8) (k : Nat), k ≤ feedAt l 0 → feedsL (l.take k) = 0
  | [], k, h => by simp [feedsL]
  | a :: l, 0, h => by simp [feedsL]
  | a :: l, k + 1, h => by
    by_cases ha : a = 10
    · subst ha; simp [feedAt] at h
    · rw [feedAt_other _ _ ha] at h
      rw [List.take_succ_cons, feedsL_cons, if_neg ha, feedsL_zero_take l k (by omega)]
theorem feeds_line (x : List UInt8) (i o : Nat) (h : i ≤ feedsL x) (h1 : lst x i ≤ o) (h2 : o ≤ feedAt x i) : feedsL (x.take o) = i := by
  obtain ⟨e1, e2⟩ := lst_feeds x i h
  rw [feedAt_lst x i h] at h2
  have : x.take o = x.take (lst x i) ++ (x.drop (lst x i)).take (o - lst x i) := by
    rw [← List.take_add]; congr 1; omega
  rw [this, feedsL_append, e1, feedsL_zero_take _ _ (by omega)]; rfl
theorem feedsL_take_le (x : List UInt8) (o : Nat) : feedsL (x.take o) ≤ feedsL x := by
  have h := feedsL_append (x.take o) (x.drop o)
  rw [List.take_append_drop] at h; omega

/-- where the line of an offset begins -/
def LS (x : List UInt8) (o : Nat) : Nat := lst x (feedsL (x.take o))
theorem LS_zero (x : List UInt8) : LS x 0 = 0 := by simp [LS, feedsL, lst]
theorem LS_feed (x : List UInt8) (o : Nat) (h : o < x.length) (hq : x[o] = 10) : LS x (o + 1) = o + 1 := by
  unfold LS
  rw [feedsL_take x o h, if_pos hq, lst_succ, feedAt_take x o (by omega), feedAt_drop_zero h hq]
theorem LS_other (x : List UInt8) (o : Nat) (h : o < x.length) (hq : x[o] ≠ 10) : LS x (o + 1) = LS x o := by
  unfold LS
  rw [feedsL_take x o h, if_neg hq]; rfl
theorem LS_le (x : List UInt8) : ∀ (o : Nat), o ≤ x.length → LS x o ≤ o
  | 0, _ => by rw [LS_zero]; exact Nat.le_refl _
  | o + 1, h => by
    by_cases hq : x[o] = 10
    · rw [LS_feed x o (by omega) hq]; exact Nat.le_refl _
    · rw [LS_other x o (by omega) hq]; have := LS_le x o (by omega); omega
theorem LS_keep (x : List UInt8) (a : Nat) : ∀ (n : Nat), a + n ≤ x.length → (∀ k (h : k < x.length), a ≤ k → k < a + n → x[k] ≠ 10) → LS x (a + n) = LS x a ∧ feedsL (x.take (a + n)) = feedsL (x.take a)
  | 0, _, _ => ⟨rfl, rfl⟩
  | n + 1, h, hk => by
    obtain ⟨h1, h2⟩ := LS_keep x a n (by omega) (fun k hx ha hb => hk k hx ha (by omega))
    have hq := hk (a + n) (by omega) (by omega) (by omega)
    rw [← Nat.add_assoc, LS_other x (a + n) (by omega) hq, h1]
    refine ⟨rfl, ?_⟩
    rw [feedsL_take x (a + n) (by omega), if_neg hq, h2]; rfl
theorem LS_line (x : List UInt8) (i o : Nat) (h : i ≤ feedsL x) (h1 : lst x i ≤ o) (h2 : o ≤ feedAt x i) : LS x o = lst x i := by unfold LS; rw [feeds_line x i o h h1 h2]
theorem LS_end (x : List UInt8) (o : Nat) (h : o ≤ x.length) : o ≤ feedAt x (feedsL (x.take o)) := by rw [feedAt_take x o h]; omega

theorem count_feeds (l : List UInt8) : Lib.countByte l 10 = feedsL l := by
  unfold Lib.countByte feedsL
  rw [List.count_eq_countP, List.countP_eq_length_filter]
theorem index_feed : ∀ (l : List UInt8), Lib.indexByte l 10 = if feedsL l = 0 then -1 else (feedAt l 0 : Int)
  | [] => by simp [Lib.indexByte, feedsL]
  | a :: l => by
    have ih := index_feed l
    by_cases ha : a = 10
    · subst ha
      rw [feedsL_cons]
      simp [Lib.indexByte, feedAt]
    · rw [feedsL_cons, if_neg ha, feedAt_other _ _ ha, Nat.zero_add]
      have h1 : (a == 10) = false := by simpa using ha
      simp only [Lib.indexByte, h1, Bool.false_eq_true, if_false, ih]
      by_cases h0 : feedsL l = 0
      · simp [h0]
      · simp only [h0, if_false]
        have : (((feedAt l 0 : Nat) : Int) == -1) = false := by rw [beq_eq_false_iff_ne]; omega
        simp [this]
theorem last_feed (s : ByteArray) : ∀ (k : Nat), k ≤ s.size → Lib.lastIdx s 10 k + 1 = (LS (byt s) k : Int)
  | 0, _ => by rw [LS_zero]; rfl
  | k + 1, h => by
    have hk : k < (byt s).length := by rw [byt_length]; omega
    have hb : s.data[k]! = (byt s)[k] := by
      rw [getElem!_pos s.data k (by have : s.data.size = s.size := rfl; omega)]; rfl
    by_cases hq : (byt s)[k] = 10
    · rw [LS_feed _ k hk hq, Lib.lastIdx_hit s 10 k (by rw [hb, hq]; rfl)]; omega
    · rw [LS_other _ k hk hq, Lib.lastIdx_miss s 10 k (by rw [hb]; intro h; exact hq (UInt8.toNat_inj.1 (by change ((byt s)[k]).toNat = 10; omega)))]
      exact last_feed s k (by omega)

theorem linesL_step : ∀ (fr i : Nat) (l : List UInt8), linesL fr i l = if feedsL l = 0 then [((fr : Int), ((i + l.length : Nat) : Int))] else ((fr : Int), ((i + feedAt l 0 : Nat) : Int)) :: linesL (i + feedAt l 0 + 1) (i + feedAt l 0 + 1) (l.drop (feedAt l 0 + 1))
  | fr, i, [] => by simp [linesL, feedsL]
  | fr, i, a :: l => by
    by_cases ha : a = 10
    · subst ha
      rw [feedsL_cons]
      simp [linesL, feedAt]
    · rw [feedsL_cons, if_neg ha, Nat.zero_add]
      simp only [linesL, ha, if_false]
      rw [linesL_step fr (i + 1) l, feedAt_other _ _ ha]
      by_cases h0 : feedsL l = 0
      · simp [h0]; omega
      · simp only [h0, if_false, List.drop_succ_cons]
        rw [show i + 1 + feedAt l 0 = i + (feedAt l 0 + 1) by omega]

/-! ### characters and lines -/
theorem bt_byt (s : ByteArray) (k : Nat) (h : k < (byt s).length) : bt s k = ((byt s)[k]).toNat := by
  rw [bt_eq s k (by rw [← byt_length]; exact h)]; rfl
theorem bt_feed (s : ByteArray) (k : Nat) (h : k < (byt s).length) : (byt s)[k] = 10 ↔ bt s k = 10 := by
  rw [bt_byt s k h]
  constructor
  · intro h; rw [h]; rfl
  · intro h; exact UInt8.toNat_inj.1 h
/-- a character that is no line feed has none in it -/
theorem LS_char (s : ByteArray) (i : Nat) (h : i < s.size) (hq : bt s i ≠ 10) : LS (byt s) (i + dn s i) = LS (byt s) i ∧ feedsL ((byt s).take (i + dn s i)) = feedsL ((byt s).take i) := by
  refine LS_keep _ i (dn s i) (by rw [byt_length]; exact dn_le s i h) (fun k hk h1 h2 hx => ?_)
  rw [bt_feed s k hk] at hx
  by_cases he : k = i
  · subst he; exact hq hx
  · have := dn_cont s i (k - i) (by omega) (by omega)
    rw [show i + (k - i) = k by omega] at this
    omega
theorem Ch.after_feed {s : ByteArray} {i : Nat} (h : i < s.size) (hq : bt s i = 10) : dn s i = 1 ∧ dw s i = 1 := ⟨dn_low s i (by omega), dw_low s i (by omega)⟩
/-- lines begin and end at characters -/
theorem Ch.lst_from {s : ByteArray} (i : Nat) (h : i ≤ feedsL (byt s)) : ∃ u, Ch s 0 (lst (byt s) i) u := by
  cases i with
  | zero => exact ⟨0, Ch.refl 0⟩
  | succ i =>
    obtain ⟨h1, _⟩ := feedAt_is (byt s) i (by omega)
    have hl := feedAt_lt (byt s) i (by omega)
    have hq : bt s (feedAt (byt s) i) = 10 := by
      rw [← bt_feed s _ hl]; rw [List.getElem?_eq_getElem hl] at h1; exact Option.some.inj h1
    have hs : feedAt (byt s) i < s.size := by rw [← byt_length]; exact hl
    obtain ⟨w, hw⟩ := Ch.at_lead (s := s) (Nat.zero_le _) (Nat.le_of_lt hs) (.inr (by omega))
    have := hw.snoc hs
    rw [(Ch.after_feed hs hq).1] at this
    exact ⟨_, by rw [lst_succ]; exact this⟩
theorem Ch.end_from {s : ByteArray} (i : Nat) (h : i ≤ feedsL (byt s)) : ∃ u, Ch s 0 (feedAt (byt s) i) u := by
  by_cases h2 : i < feedsL (byt s)
  · obtain ⟨h1, _⟩ := feedAt_is (byt s) i h2
    have hl := feedAt_lt (byt s) i h2
    have hq : bt s (feedAt (byt s) i) = 10 := by
      rw [← bt_feed s _ hl]; rw [List.getElem?_eq_getElem hl] at h1; exact Option.some.inj h1
    exact Ch.at_lead (s := s) (Nat.zero_le _) (by rw [← byt_length]; omega) (.inr (by omega))
  · rw [feedAt_none _ _ (by omega), byt_length]
    exact Ch.at_lead (s := s) (Nat.zero_le _) (Nat.le_refl _) (.inl rfl)
theorem Ch.line {s : ByteArray} (i : Nat) (h : i ≤ feedsL (byt s)) : ∃ u, Ch s (lst (byt s) i) (feedAt (byt s) i) u := by
  obtain ⟨u, hu⟩ := Ch.lst_from (s := s) i h
  obtain ⟨v, hv⟩ := Ch.end_from (s := s) i h
  obtain ⟨w, hw, _⟩ := hu.split hv (lst_le_feedAt _ i h)
  exact ⟨w, hw⟩
theorem Ch.of_LS {s : ByteArray} {o w : Nat} (ho : o ≤ s.size) (h : Ch s 0 o w) : ∃ c, Ch s (LS (byt s) o) o c := by
  obtain ⟨u, hu⟩ := Ch.lst_from (s := s) (feedsL ((byt s).take o)) (feedsL_take_le _ _)
  obtain ⟨c, hc, _⟩ := hu.split h (LS_le (byt s) o (by rw [byt_length]; exact ho))
  exact ⟨c, hc⟩

/-- the offset o has the line and the column -/
def HasOff (s : ByteArray) (line col : Int) (o : Nat) : Prop :=
  ∃ l c : Nat, line = l ∧ col = c ∧ l ≤ feedsL (byt s) ∧ lst (byt s) l ≤ o ∧ o ≤ feedAt (byt s) l ∧ Ch s (lst (byt s) l) o c
/-- the offset o of line l is the nearest to a column -/
def NearR (s : ByteArray) (l : Nat) (m : Int) (o : Nat) : Prop :=
  ∃ c : Nat, Ch s (lst (byt s) l) o c ∧ o ≤ feedAt (byt s) l ∧ (o = lst (byt s) l ∨ (c : Int) ≤ m) ∧ (o = feedAt (byt s) l ∨ m < (c : Int) + dw s o)
theorem NearR.le_of {s : ByteArray} {l : Nat} {m : Int} {o o' : Nat} (hl : l ≤ feedsL (byt s)) (h : NearR s l m o) (h' : NearR s l m o') : o' ≤ o := by
  obtain ⟨c, hc, h1, h2, h3⟩ := h
  obtain ⟨c', hc', h1', h2', h3'⟩ := h'
  rcases Nat.lt_or_ge o o' with hlt | hge
  · exfalso
    obtain ⟨u, hu, rfl⟩ := hc.split hc' (Nat.le_of_lt hlt)
    obtain ⟨_, v, rfl, _⟩ := hu.next hlt
    have := hc.le
    rcases h3 with rfl | h3
    · omega
    · rcases h2' with rfl | h2'
      · omega
      · omega
  · exact hge
theorem NearR.unique {s : ByteArray} {l : Nat} {m : Int} {o o' : Nat} (hl : l ≤ feedsL (byt s)) (h : NearR s l m o) (h' : NearR s l m o') : o = o' :=
  Nat.le_antisymm (h'.le_of hl h) (h.le_of hl h')
theorem HasOff.near {s : ByteArray} {line col : Int} {o : Nat} (h : HasOff s line col o) : ∃ l : Nat, line = l ∧ l ≤ feedsL (byt s) ∧ NearR s l col o := by
  obtain ⟨l, c, rfl, rfl, hl, h1, h2, h3⟩ := h
  have := dw_pos s o
  exact ⟨l, rfl, hl, c, h3, h2, .inr (by omega), .inr (by omega)⟩
theorem HasOff.unique {s : ByteArray} {line col : Int} {o o' : Nat} (h : HasOff s line col o) (h' : HasOff s line col o') : o = o' := by
  obtain ⟨l, e, hl, hn⟩ := h.near
  obtain ⟨l', e', hl', hn'⟩ := h'.near
  obtain rfl : l = l' := by omega
  exact hn.unique hl hn'
/-- of the nearest: whether it has the column -/
theorem NearR.has {s : ByteArray} {l : Nat} {m : Int} {o c : Nat} (hl : l ≤ feedsL (byt s)) (h : NearR s l m o) (hc : Ch s (lst (byt s) l) o c) (o' : Nat) : HasOff s l m o' ↔ (o' = o ∧ (c : Int) = m) := by
  constructor
  · intro h'
    obtain ⟨l', e, hl', hn'⟩ := h'.near
    obtain rfl : l = l' := by omega
    obtain rfl := h.unique hl hn'
    refine ⟨rfl, ?_⟩
    obtain ⟨l2, c2, e2, rfl, _, _, _, h6⟩ := h'
    obtain rfl : l = l2 := by omega
    rw [hc.det h6]
  · rintro ⟨rfl, rfl⟩
    obtain ⟨_, _, h2, _⟩ := h
    exact ⟨l, c, rfl, rfl, hl, hc.le, h2, hc⟩
/-- the place of an offset at which a character begins -/
def PlaceAt (s : ByteArray) (o : Nat) (line col : Nat) : Prop := line = feedsL ((byt s).take o) ∧ Ch s (LS (byt s) o) o col
theorem PlaceAt.has {s : ByteArray} {o line col : Nat} (ho : o ≤ s.size) (h : PlaceAt s o line col) : HasOff s line col o := by
  obtain ⟨rfl, h⟩ := h
  exact ⟨_, _, rfl, rfl, feedsL_take_le _ _, h.le, LS_end _ _ (by rw [byt_length]; exact ho), h⟩
theorem HasOff.place {s : ByteArray} {line col : Int} {o : Nat} (h : HasOff s line col o) : ∃ l c : Nat, line = l ∧ col = c ∧ PlaceAt s o l c ∧ o ≤ s.size ∧ ∃ w, Ch s 0 o w := by
  obtain ⟨l, c, rfl, rfl, hl, h1, h2, h3⟩ := h
  obtain ⟨u, hu⟩ := Ch.lst_from (s := s) l hl
  refine ⟨l, c, rfl, rfl, ⟨(feeds_line _ l o hl h1 h2).symm, by rw [LS_line _ l o hl h1 h2]; exact h3⟩, ?_, _, hu.trans h3⟩
  have := feedAt_le (byt s) l
  rw [byt_length] at this
  omega
theorem PlaceAt.det {s : ByteArray} {o l c l' c' : Nat} (h : PlaceAt s o l c) (h' : PlaceAt s o l' c') : l = l' ∧ c = c' := by
  obtain ⟨rfl, h⟩ := h
  obtain ⟨rfl, h'⟩ := h'
  exact ⟨rfl, h.det h'⟩
end Go.Proofs.YtmbpjjehnfjdiaaDoor
