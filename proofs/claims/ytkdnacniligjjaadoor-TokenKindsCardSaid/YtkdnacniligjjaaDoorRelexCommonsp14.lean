/-
  Plain mathematics of relex: the tokens of the string after edits, of parts that are scanned again and of what is taken over.; Plain mathematics of relex: parts with their edits; the tokens of the whole string after edits.
-/
import Derived.Test.YtkdnacniligjjaaDoorRelexCommonsp11
import Derived.Test.YtkdnacniligjjaaDoorRelexCommonsp13
namespace Go.Proofs.YtkdnacniligjjaaDoor
set_option linter.unusedVariables false
set_option linter.unusedSimpArgs false

/-- the tokens of bytes -/
def lx (l : List UInt8) : List Tok := lexL (mkB l)
theorem mkB_byt (s : ByteArray) : mkB (byt s) = s := mkB_of s
theorem mkB_append (a b : List UInt8) : mkB (a ++ b) = mkB a ++ mkB b := by apply bytj; rw [byt_append, byt_mkB, byt_mkB, byt_mkB]
theorem lx_byt (s : ByteArray) : lx (byt s) = lexL s := by unfold lx; rw [mkB_byt]
theorem lx_nil : lx [] = [] := lexL_nil rfl
def blankL (l : List UInt8) : Prop := ∀ x ∈ l, blankB x = true
theorem lx_fed (u : List UInt8) : ∃ (init : List Tok) (z : List UInt8), u ++ [10] = catL init ++ z ∧ z ≠ [] ∧ blankL z ∧ ∀ b, lx (u ++ [10] ++ b) = init ++ lx (z ++ b) := by
  have hz : 0 < (mkB (u ++ [10])).size := by rw [mkB_size]; simp
  obtain ⟨init, z, h1, h2, h3, h4⟩ := lexL_fed (mkB (u ++ [10])).size (mkB (u ++ [10])) (Nat.le_refl _) hz (by rw [byt_mkB]; simp)
  refine ⟨init, byt z, ?_, ?_, h3, fun b => ?_⟩
  · have := catL_lex _ (mkB (u ++ [10])) (Nat.le_refl _)
    rw [h1, catL_append, byt_mkB] at this
    rw [← this]; simp [catL]
  · intro h
    have := byt_length z
    rw [h] at this; simp at this; omega
  · have := h4 (mkB b)
    rw [← mkB_append] at this
    unfold lx
    rw [this, mkB_append, mkB_byt]
theorem lx_blank {z : List UInt8} (hz : z ≠ []) (ha : blankL z) (b : List UInt8) (hb : runL blankB b = 0) : lx (z ++ b) = (1, mkB z) :: lx b := by
  unfold lx
  rw [mkB_append, lexL_blank (z := mkB z) (mkB b) (by rw [mkB_size]; exact List.length_pos_iff.2 hz) (by unfold allBlank; rw [byt_mkB]; exact ha), byt_mkB, hb]
  congr 1
  · refine Prod.ext rfl ?_
    apply bytj
    simp only [byt_append, byt_take, List.take_zero, List.append_nil]
  · congr 1
    apply bytj
    rw [byt_drop, List.drop_zero]
theorem lx_blank1 {z : List UInt8} (hz : z ≠ []) (ha : blankL z) : lx z = [(1, mkB z)] := by
  have := lx_blank hz ha [] rfl
  rw [List.append_nil, lx_nil] at this; exact this
/-- behind blanks with a line feed, what follows is scanned by itself -/
theorem lx_right (u bl Y : List UInt8) (hbl : blankL bl) (hY : runL blankB Y = 0) : lx (u ++ [10] ++ bl ++ Y) = lx (u ++ [10] ++ bl) ++ lx Y := by
  obtain ⟨init, z, _, hz, hzb, hall⟩ := lx_fed u
  have hb2 : blankL (z ++ bl) := fun x hx => by
    rcases List.mem_append.1 hx with h | h
    · exact hzb x h
    · exact hbl x h
  have hne : z ++ bl ≠ [] := by
    intro h
    exact hz (List.append_eq_nil_iff.1 h).1
  rw [List.append_assoc, hall, ← List.append_assoc, lx_blank hne hb2 Y hY, hall, lx_blank1 hne hb2, List.append_assoc]
  rfl

section
variable (L : List Tok)
/-- where a token begins -/
def posB (i : Nat) : Nat := (catL (L.take i)).length
end
theorem posB_zero (L : List Tok) : posB L 0 = 0 := rfl
theorem posB_all (L : List Tok) {i : Nat} (h : L.length ≤ i) : posB L i = (catL L).length := by unfold posB; rw [List.take_of_length_le h]
theorem posB_succ {L : List Tok} {i : Nat} (h : i < L.length) : posB L (i + 1) = posB L i + L[i].2.size := by
  unfold posB; rw [catL_take h, List.length_append, byt_length]
theorem posB_le {L : List Tok} {i j : Nat} (h : i ≤ j) : posB L i ≤ posB L j := by
  unfold posB
  have h1 : L.take i = (L.take j).take i := by rw [List.take_take, Nat.min_eq_left h]
  rw [h1]; exact catL_take_le _ _
theorem posB_lt {L : List Tok} (hp : ∀ p ∈ L, 0 < p.2.size) {i j : Nat} (h : i < j) (hj : j ≤ L.length) : posB L i < posB L j := by
  have h1 := posB_succ (L := L) (i := i) (by omega)
  have h2 := hp L[i] (List.getElem_mem (by omega))
  have h3 := posB_le (L := L) (i := i + 1) (j := j) h
  omega
theorem posB_append (a b : List Tok) : posB (a ++ b) a.length = (catL a).length := by unfold posB; rw [List.take_left]
theorem posB_uniq {L : List Tok} {i j q : Nat} (h1 : posB L i ≤ q) (h2 : q < posB L (i + 1)) (h3 : posB L j ≤ q) (h4 : q < posB L (j + 1)) : i = j := by
  rcases Nat.lt_trichotomy i j with h | h | h
  · have := posB_le (L := L) (i := i + 1) (j := j) h; omega
  · exact h
  · have := posB_le (L := L) (i := j + 1) (j := i) h; omega

theorem catL_drop (L : List Tok) (d : Nat) : (catL L).drop (posB L d) = catL (L.drop d) := by
  have h := catL_append (L.take d) (L.drop d)
  rw [List.take_append_drop] at h
  unfold posB
  rw [h, List.drop_left]
/-- from a token on -/
theorem lx_drop : ∀ (n : Nat) (s : ByteArray), s.size ≤ n → ∀ d, lx ((byt s).drop (posB (lexL s) d)) = (lexL s).drop d
  | 0, s, h, d => by
    rw [lexL_nil (s := s) (by omega), List.drop_nil, List.eq_nil_of_length_eq_zero (l := byt s) (by rw [byt_length]; omega), List.drop_nil, lx_nil]
  | n + 1, s, h, d => by
    rcases d with _ | d
    · rw [posB_zero, List.drop_zero, List.drop_zero, lx_byt]
    · by_cases h0 : s.size = 0
      · rw [lexL_nil h0, List.drop_nil, List.eq_nil_of_length_eq_zero (l := byt s) (by rw [byt_length]; omega), List.drop_nil, lx_nil]
      · have hle := firstP_le s (by omega)
        have hz := tail_size s (firstP s).2
        have ih := lx_drop n (s.extract (firstP s).2 s.size) (by omega) d
        have hst := lexL_step (s := s) (by omega)
        rw [byt_drop, List.drop_drop] at ih
        have hx : (s.extract 0 (firstP s).2).size = (firstP s).2 := by rw [ByteArray.size_extract]; omega
        generalize lexL (s.extract (firstP s).2 s.size) = L2 at ih hst
        generalize s.extract 0 (firstP s).2 = x at hst hx
        generalize (firstP s).2 = m at ih hx
        generalize (firstP s).1 = kd at hst
        rw [hst, List.drop_succ_cons, ← ih]
        have hp : posB ((kd, x) :: L2) (d + 1) = m + posB L2 d := by
          unfold posB
          rw [List.take_succ_cons]
          show (byt x ++ catL _).length = _
          rw [List.length_append, byt_length, hx]
        rw [hp]

/-- the bytes at an offset -/
def at10 (s : ByteArray) (q : Nat) : Prop := (byt s)[q]? = some 10
theorem at10_lt {s : ByteArray} {q : Nat} (h : at10 s q) : q < s.size := by
  have := (List.getElem?_eq_some_iff.1 h).1
  rwa [byt_length] at this
theorem sub_snoc {s : ByteArray} {q a : Nat} (h : at10 s q) (ha : a ≤ q) : sub s a (q + 1) = sub s a q ++ [10] := by
  have hq := at10_lt h
  rw [← sub_add s a q (q + 1) ha (by omega)]
  congr 1
  rw [sub_eq, Nat.add_sub_cancel_left]
  have hg : (byt s).drop q = 10 :: (byt s).drop (q + 1) := by
    rw [List.drop_eq_getElem_cons (by rw [byt_length]; exact hq)]
    congr 1
    have := (List.getElem?_eq_some_iff.1 h).2
    exact this
  show ((byt s).drop q).take 1 = [10]
  rw [hg]; rfl
theorem sub_tail (s : ByteArray) (a : Nat) : sub s a s.size = (byt s).drop a := by
  rw [sub_eq]
  apply List.take_of_length_le
  show ((byt s).drop a).length ≤ _
  rw [List.length_drop, byt_length]
  exact Nat.le_refl _
theorem sub_drop (s : ByteArray) {a b : Nat} (h : a ≤ b) : sub s a b ++ (byt s).drop b = (byt s).drop a := by
  rw [sub_eq]
  show ((byt s).drop a).take (b - a) ++ _ = _
  rw [show (byt s).drop b = ((byt s).drop a).drop (b - a) by rw [List.drop_drop]; congr 1; omega, List.take_append_drop]

/-- a token with a line feed: all before it are scanned as before whatever comes behind the line feed -/
theorem lx_left {s : ByteArray} {d a q : Nat} (hq : at10 s q) (hd : d ≤ a) (ha : a < (lexL s).length) (h1 : posB (lexL s) a ≤ q) (h2 : q < posB (lexL s) (a + 1)) (X : List UInt8) :
    lx (sub s (posB (lexL s) d) (posB (lexL s) a) ++ (sub s (posB (lexL s) a) (q + 1) ++ X)) = ((lexL s).take a).drop d ++ lx (sub s (posB (lexL s) a) (q + 1) ++ X) := by
  have hpos : ∀ p ∈ lexL s, 0 < p.2.size := fun p hp => (lexL_each s.size s (Nat.le_refl _) p hp).2
  have hda := posB_le (L := lexL s) hd
  have hql := at10_lt hq
  obtain ⟨init, z, hcat, hz, hzb, hall⟩ := lx_fed (sub s (posB (lexL s) d) q)
  rw [← sub_snoc hq (by omega)] at hcat hall
  have hdrop := lx_drop s.size s (Nat.le_refl _) d
  have hsp : (byt s).drop (posB (lexL s) d) = sub s (posB (lexL s) d) (q + 1) ++ (byt s).drop (q + 1) := (sub_drop s (by omega)).symm
  rw [hsp, hall] at hdrop
  -- the token behind init begins where z begins
  have hzl : 0 < z.length := List.length_pos_iff.2 hz
  have hlen := congrArg List.length hcat
  rw [sub_length, List.length_append, Nat.min_eq_left (by omega)] at hlen
  have hposd : ∀ i, i ≤ init.length → posB (lexL s) (d + i) = posB (lexL s) d + (catL (init.take i)).length := fun i hi => by
    have e1 : (lexL s).take (d + i) = (lexL s).take d ++ ((lexL s).drop d).take i := by rw [List.take_add]
    unfold posB
    rw [e1, catL_append, List.length_append, ← hdrop, List.take_append_of_le_length hi]
  have hi := hposd init.length (Nat.le_refl _)
  rw [List.take_length] at hi
  -- what follows begins with a token that holds z
  have hz2 : ∃ (p : Tok) (r : List Tok), lx (z ++ (byt s).drop (q + 1)) = p :: r ∧ z.length ≤ p.2.size := by
    unfold lx
    rw [mkB_append, lexL_blank (z := mkB z) _ (by rw [mkB_size]; exact hzl) (by unfold allBlank; rw [byt_mkB]; exact hzb)]
    refine ⟨_, _, rfl, ?_⟩
    simp only [size_append, mkB_size]
    omega
  obtain ⟨p, r, hpr, hps⟩ := hz2
  rw [hpr] at hdrop
  have hi1 : posB (lexL s) (d + init.length + 1) = posB (lexL s) (d + init.length) + p.2.size := by
    have hg : (lexL s)[d + init.length]? = some p := by
      rw [← List.getElem?_drop, ← hdrop]; simp
    obtain ⟨hlt, hge⟩ := List.getElem?_eq_some_iff.1 hg
    rw [posB_succ hlt, hge]
  have hai : d + init.length = a := posB_uniq (L := lexL s) (q := q) (by omega) (by omega) h1 h2
  have hinit : ((lexL s).take a).drop d = init := by
    rw [List.drop_take, ← hdrop, ← hai, Nat.add_sub_cancel_left, List.take_left]
  have hposa : posB (lexL s) a = posB (lexL s) d + (catL init).length := by rw [← hai]; exact hi
  have hzz : sub s (posB (lexL s) a) (q + 1) = z := by
    have e : sub s (posB (lexL s) d) (posB (lexL s) a) ++ sub s (posB (lexL s) a) (q + 1) = catL init ++ z := by rw [sub_add s _ _ _ hda (by omega)]; exact hcat
    have hl : (sub s (posB (lexL s) d) (posB (lexL s) a)).length = (catL init).length := by rw [sub_length]; omega
    exact (List.append_inj e hl).2
  rw [hinit, ← List.append_assoc, sub_add s _ _ _ hda (by omega), hall, hzz]
end Go.Proofs.YtkdnacniligjjaaDoor

namespace Go.Proofs.YtkdnacniligjjaaDoor
set_option linter.unusedVariables false
set_option linter.unusedSimpArgs false

theorem sub_token {s : ByteArray} {i : Nat} (h : i < (lexL s).length) : sub s (posB (lexL s) i) (posB (lexL s) (i + 1)) = byt (lexL s)[i].2 := by
  have h1 := catL_lex s.size s (Nat.le_refl _)
  have h2 := posB_succ h
  have h3 := catL_drop (lexL s) i
  rw [h1, List.drop_eq_getElem_cons h] at h3
  rw [sub_eq, h2, Nat.add_sub_cancel_left]
  show ((byt s).drop (posB (lexL s) i)).take _ = _
  rw [h3]
  show (byt (lexL s)[i].2 ++ catL _).take _ = _
  rw [← byt_length, List.take_left]
theorem kind_blank {s : ByteArray} {p : Tok} (h : p ∈ lexL s) (h1 : p.1 = 1) : blankL (byt p.2) := by
  obtain ⟨h2, h3⟩ := lexL_each s.size s (Nat.le_refl _) p h
  rw [lexL_step h3] at h2
  have h4 := (List.cons.inj h2).1
  have hk : (firstP p.2).1 = 1 := (congrArg Prod.fst h4).trans h1
  have hb := (firstP_kinds p.2).1 hk
  have hx := congrArg (fun q : Tok => q.2.size) h4
  simp only [ByteArray.size_extract] at hx
  have hle := firstP_le p.2 h3
  rw [firstP1 hb] at hx hle
  simp only at hx hle
  exact run_full (by rw [byt_length]; omega)
theorem feed_blank {s : ByteArray} {i q : Nat} (hq : at10 s q) (h : i < (lexL s).length) (h1 : posB (lexL s) i ≤ q) (h2 : q < posB (lexL s) (i + 1)) : (lexL s)[i].1 = 1 := by
  by_cases hk : (lexL s)[i].1 = 1
  · exact hk
  · exfalso
    have hnf := lexL_nf s.size s (Nat.le_refl _) _ (List.getElem_mem h) hk
    have hs := sub_token h
    have hql := at10_lt hq
    have hm : (10 : UInt8) ∈ byt (lexL s)[i].2 := by
      rw [← hs, ← sub_add s _ q _ h1 (by omega)]
      refine List.mem_append_right _ ?_
      rw [← sub_add s q (q + 1) _ (by omega) (by omega), sub_snoc hq (Nat.le_refl _)]
      simp
    have := hnf 10 hm
    simp at this
/-- behind a blank with a line feed stands no blank -/
theorem next_no_blank {s : ByteArray} {b q : Nat} (hq : at10 s q) (hb0 : 0 < b) (hb : b < (lexL s).length) (h1 : posB (lexL s) (b - 1) ≤ q) (h2 : q < posB (lexL s) b) :
    ∃ x r, (byt s).drop (posB (lexL s) b) = x :: r ∧ blankB x = false := by
  have hk1 := feed_blank (i := b - 1) hq (by omega) h1 (by rw [show b - 1 + 1 = b by omega]; exact h2)
  have hk2 : (lexL s)[b].1 ≠ 1 := fun h => lexL_two s (b - 1) _ _ (List.getElem?_eq_getElem (by omega)) (by rw [show b - 1 + 1 = b by omega]; exact List.getElem?_eq_getElem hb) ⟨hk1, h⟩
  have hd := lx_drop s.size s (Nat.le_refl _) b
  rw [List.drop_eq_getElem_cons hb] at hd
  cases hl : (byt s).drop (posB (lexL s) b) with
  | nil => rw [hl, lx_nil] at hd; cases hd
  | cons x r =>
    refine ⟨x, r, rfl, ?_⟩
    rw [hl] at hd
    have hz : 0 < (mkB (x :: r)).size := by rw [mkB_size]; simp
    unfold lx at hd
    rw [lexL_step hz] at hd
    have h4 := congrArg Prod.fst (List.cons.inj hd).1
    simp only at h4
    have hb0' : b0 (mkB (x :: r)) = x := by unfold b0; rw [byt_mkB]; rfl
    cases hx : blankB x
    · rfl
    · exfalso
      have hbk : beginK (mkB (x :: r)) = 1 := by unfold beginK; rw [hb0', hx]; rfl
      rw [firstP1 hbk] at h4
      exact hk2 h4.symm

theorem rising_app {z q : Int} (hq : q ≤ z) {l' : List Ed} (h' : rising z q l' = true) : ∀ {l : List Ed} {a : Int}, a ≤ q → rising q a l = true → rising z a (l ++ l') = true
  | [], a, ha, _ => rising_less h' ha
  | e :: l, a, ha, h => by
    rw [rising_cons] at h
    rw [List.cons_append, rising_cons]
    exact ⟨h.1, h.2.1, h.2.2.1, by omega, rising_app hq h' (by omega) h.2.2.2.2⟩
theorem rising_from {z a a' : Int} {l : List Ed} (h : rising z a l = true) (hf : ∀ e ∈ l, a' ≤ e.f) : rising z a' l = true := by
  cases l with
  | nil => rfl
  | cons e l =>
    rw [rising_cons] at h ⊢
    exact ⟨hf e (by simp), h.2⟩
theorem rising_up {z z' : Int} : ∀ {l : List Ed} {a : Int}, rising z a l = true → (∀ e ∈ l, e.t ≤ z') → rising z' a l = true
  | [], _, _, _ => rfl
  | e :: l, a, h, hf => by
    rw [rising_cons] at h ⊢
    exact ⟨h.1, h.2.1, h.2.2.1, hf e (by simp), rising_up h.2.2.2.2 (fun x hx => hf x (by simp [hx]))⟩

/-- a part, from the token a to before the token b, and its edits -/
structure PGood (s : ByteArray) (a b : Nat) (g : List Ed) : Prop where
  ab : a ≤ b
  bl : b ≤ (lexL s).length
  rise : rising (posB (lexL s) b : Nat) (posB (lexL s) a : Nat) g = true
  left : a = 0 ∨ ∃ q, at10 s q ∧ a < (lexL s).length ∧ posB (lexL s) a ≤ q ∧ q < posB (lexL s) (a + 1) ∧ a < b ∧ ∀ e ∈ g, ((q : Nat) : Int) < e.f
  right : b = (lexL s).length ∨ ∃ q, at10 s q ∧ 0 < b ∧ posB (lexL s) (b - 1) ≤ q ∧ q < posB (lexL s) b ∧ posB (lexL s) a ≤ q ∧ ∀ e ∈ g, e.t ≤ ((q : Nat) : Int)
abbrev PG := Nat × Nat × List Ed
def allE (ps : List PG) : List Ed := ps.flatMap fun p => p.2.2
def Chain (s : ByteArray) : Nat → List PG → Prop
  | d, [] => d ≤ (lexL s).length
  | d, p :: ps => d ≤ p.1 ∧ PGood s p.1 p.2.1 p.2.2 ∧ (∀ x, ps.head? = some x → p.2.1 < x.1) ∧ Chain s p.2.1 ps
def relexF (s : ByteArray) : Nat → List PG → List Tok
  | d, [] => (lexL s).drop d
  | d, p :: ps => ((lexL s).take p.1).drop d ++ (lx (editedL s (posB (lexL s) p.2.1) (posB (lexL s) p.1) p.2.2) ++ relexF s p.2.1 ps)
theorem posB_size (s : ByteArray) : posB (lexL s) (lexL s).length = s.size := by
  rw [posB_all _ (Nat.le_refl _), catL_lex s.size s (Nat.le_refl _), byt_length]
theorem posB_max (s : ByteArray) (i : Nat) : posB (lexL s) i ≤ s.size := by
  rcases Nat.le_total i (lexL s).length with h | h
  · have := posB_le (L := lexL s) h; rw [posB_size] at this; exact this
  · rw [posB_all _ h, catL_lex s.size s (Nat.le_refl _), byt_length]; exact Nat.le_refl _
theorem chain_rise (s : ByteArray) : ∀ (ps : List PG) (d : Nat), Chain s d ps → rising (s.size : Int) (posB (lexL s) d : Nat) (allE ps) = true
  | [], d, _ => rfl
  | p :: ps, d, h => by
    obtain ⟨h1, h2, h3, h4⟩ := h
    have ih := chain_rise s ps p.2.1 h4
    have hm := posB_max s p.2.1
    have ha := posB_le (L := lexL s) h1
    have hab := posB_le (L := lexL s) h2.ab
    have := rising_app (z := (s.size : Int)) (by omega) ih (by omega) h2.rise
    exact rising_less this (by omega)
/-- the same, from a place ahead of the first part on -/
theorem chain_rise' (s : ByteArray) {ps : List PG} {d : Nat} {x : Int} (h : Chain s d ps) (hx : ∀ p, ps.head? = some p → x ≤ (posB (lexL s) p.1 : Nat)) : rising (s.size : Int) x (allE ps) = true := by
  cases ps with
  | nil => rfl
  | cons p ps =>
    obtain ⟨h1, h2, h3, h4⟩ := h
    have ih := chain_rise s ps p.2.1 h4
    have hm := posB_max s p.2.1
    have hab := posB_le (L := lexL s) h2.ab
    have := rising_app (z := (s.size : Int)) (by omega) ih (by omega) h2.rise
    exact rising_less this (hx p rfl)

theorem relex_right (s : ByteArray) : ∀ (ps : List PG) (d : Nat), Chain s d ps → lx (editedL s s.size (posB (lexL s) d) (allE ps)) = relexF s d ps
  | [], d, h => by
    show lx (sub s (posB (lexL s) d) s.size) = (lexL s).drop d
    rw [sub_tail, lx_drop s.size s (Nat.le_refl _) d]
  | (a, b, g) :: ps, d, h => by
    obtain ⟨h1, h2, h3, h4⟩ := h
    simp only at h1 h2 h3 h4
    have ih := relex_right s ps b h4
    have hr := chain_rise s ps b h4
    have hpos : ∀ p ∈ lexL s, 0 < p.2.size := fun p hp => (lexL_each s.size s (Nat.le_refl _) p hp).2
    have hm := posB_max s b
    have hab := posB_le (L := lexL s) h2.ab
    have hda := posB_le (L := lexL s) h1
    show lx (editedL s s.size (posB (lexL s) d) (g ++ allE ps)) = ((lexL s).take a).drop d ++ (lx (editedL s (posB (lexL s) b) (posB (lexL s) a) g) ++ relexF s b ps)
    have hgr : rising (s.size : Int) (posB (lexL s) a : Nat) (g ++ allE ps) = true := rising_app (by omega) hr (by omega) h2.rise
    rw [editedL_split hda (by omega) hgr, editedL_append (by omega) hr (by omega) h2.rise]
    -- what stands behind the part
    have hY : lx (editedL s (posB (lexL s) b) (posB (lexL s) a) g ++ editedL s s.size (posB (lexL s) b) (allE ps)) = lx (editedL s (posB (lexL s) b) (posB (lexL s) a) g) ++ lx (editedL s s.size (posB (lexL s) b) (allE ps)) := by
      rcases h2.right with hbl | ⟨q, hq, hb0, hq1, hq2, hq3, hqe⟩
      · have hps : ps = [] := by
          cases ps with
          | nil => rfl
          | cons x ps =>
            exfalso
            have e1 := h3 x rfl
            have e2 := h4.2.1.ab
            have e3 := h4.2.1.bl
            omega
        subst hps
        have : editedL s s.size (posB (lexL s) b) (allE []) = [] := by
          show sub s (posB (lexL s) b) s.size = []
          rw [hbl, posB_size]
          exact sub_nil s _ _ (Nat.le_refl _)
        rw [this, List.append_nil, lx_nil, List.append_nil]
      · have hql := at10_lt hq
        have hto := editedL_to (t := s) (z := q) (z' := posB (lexL s) b) (by omega) (l := g) (a := posB (lexL s) a) hq3 (rising_up h2.rise hqe)
        have hbl2 : sub s q (posB (lexL s) b) = [10] ++ sub s (q + 1) (posB (lexL s) b) := by
          rw [← sub_add s q (q + 1) _ (by omega) (by omega), sub_snoc hq (Nat.le_refl _), sub_nil s q q (Nat.le_refl _)]; rfl
        have hk1 := feed_blank (i := b - 1) hq (by have := h2.bl; omega) hq1 (by rw [show b - 1 + 1 = b by omega]; exact hq2)
        have hbb : blankL (sub s (q + 1) (posB (lexL s) b)) := fun x hx => by
          have h5 := kind_blank (List.getElem_mem (l := lexL s) (n := b - 1) (by have := h2.bl; omega)) hk1
          refine h5 x ?_
          rw [← sub_token, show b - 1 + 1 = b by omega, ← sub_add s _ (q + 1) _ (by omega) (by omega)]
          exact List.mem_append_right _ hx
        rw [hto, hbl2, ← List.append_assoc]
        refine lx_right _ _ _ hbb ?_
        rcases Nat.lt_or_ge b (lexL s).length with hlt | hge
        · obtain ⟨x, r, hxr, hx⟩ := next_no_blank hq hb0 hlt hq1 hq2
          have hsz := posB_lt (L := lexL s) hpos hlt (Nat.le_refl _)
          rw [posB_size] at hsz
          have hr2 : rising (s.size : Int) ((posB (lexL s) b + 1 : Nat) : Int) (allE ps) = true := chain_rise' s h4 (fun p hp => by
            have e1 := h3 p hp
            have e2 : p.1 ≤ (lexL s).length := by
              cases ps with
              | nil => cases hp
              | cons y ps =>
                injection hp with hp
                subst hp
                exact Nat.le_trans h4.2.1.ab h4.2.1.bl
            have := posB_lt (L := lexL s) hpos e1 e2
            omega)
          rw [editedL_split (b := posB (lexL s) b + 1) (by omega) (by omega) hr2]
          have h1x : sub s (posB (lexL s) b) (posB (lexL s) b + 1) = [x] := by
            rw [sub_eq, Nat.add_sub_cancel_left]
            show ((byt s).drop _).take 1 = _
            rw [hxr]; rfl
          rw [h1x]
          show runL blankB (x :: _) = 0
          simp only [runL]
          rw [if_neg (by simp [hx])]
        · have hps : ps = [] := by
            cases ps with
            | nil => rfl
            | cons x ps =>
              exfalso
              have e1 := h3 x rfl
              have e2 := h4.2.1.ab
              have e3 := h4.2.1.bl
              omega
          subst hps
          have : editedL s s.size (posB (lexL s) b) (allE []) = [] := by
            show sub s (posB (lexL s) b) s.size = []
            rw [posB_all _ hge, catL_lex s.size s (Nat.le_refl _), byt_length]
            exact sub_nil s _ _ (Nat.le_refl _)
          rw [this]; rfl
    -- what stands ahead of it
    rcases h2.left with ha0 | ⟨q, hq, hal, hq1, hq2, hlt, hqe⟩
    · subst ha0
      have : d = 0 := by omega
      subst this
      rw [sub_nil s _ _ (Nat.le_refl _), List.nil_append, hY, ih]
      rfl
    · have hql := at10_lt hq
      have hqb : q + 1 ≤ posB (lexL s) b := by
        have := posB_le (L := lexL s) (i := a + 1) (j := b) hlt
        omega
      have hsp := editedL_split (t := s) (z := posB (lexL s) b) (a := posB (lexL s) a) (b := q + 1) (by omega) hqb (l := g) (rising_from h2.rise (fun e he => by have := hqe e he; omega))
      rw [← ih, ← hY, hsp, List.append_assoc]
      exact lx_left hq h1 hal hq1 hq2 _
end Go.Proofs.YtkdnacniligjjaaDoor
