/-
  Plain mathematics of relex: edits in groups; where the parts stand in the new string.; Plain mathematics of relex: where a part stands in the new string.
-/
import Derived.Test.YtkdnacniligjjaaDoorRelexCommonsp18
namespace Go.Proofs.YtkdnacniligjjaaDoor
set_option linter.unusedVariables false
set_option linter.unusedSimpArgs false

theorem rising_mem {z a : Int} {l : List Ed} (h : rising z a l = true) {x : Ed} (hx : x ∈ l) : a ≤ x.f ∧ 0 ≤ x.f ∧ x.f ≤ x.t ∧ x.t ≤ z := by
  obtain ⟨i, hi, rfl⟩ := List.getElem_of_mem hx
  exact rising_get h hi
theorem rising_split {z : Int} : ∀ {l : List Ed} {a : Int} {e : Ed}, rising z a (l ++ [e]) = true → rising z a l = true ∧ (∀ x ∈ l, x.t ≤ e.f) ∧ a ≤ e.f ∧ 0 ≤ e.f ∧ e.f ≤ e.t ∧ e.t ≤ z
  | [], a, e, h => by
    rw [List.nil_append, rising_cons] at h
    exact ⟨rfl, fun x hx => (by cases hx), h.1, h.2.1, h.2.2.1, h.2.2.2.1⟩
  | y :: l, a, e, h => by
    rw [List.cons_append, rising_cons] at h
    obtain ⟨h1, h2, h3, h4, h5⟩ := h
    obtain ⟨i1, i2, i3, i4, i5, i6⟩ := rising_split h5
    refine ⟨rising_cons.2 ⟨h1, h2, h3, h4, i1⟩, fun x hx => ?_, by omega, i4, i5, i6⟩
    rcases List.mem_cons.1 hx with rfl | hx
    · exact i3
    · exact i2 x hx
theorem snoc_rising {z : Int} : ∀ {l : List Ed} {a : Int} {e : Ed}, rising z a l = true → (∀ x ∈ l, x.t ≤ e.f) → a ≤ e.f → 0 ≤ e.f → e.f ≤ e.t → e.t ≤ z → rising z a (l ++ [e]) = true
  | [], a, e, _, _, h3, h4, h5, h6 => rising_cons.2 ⟨h3, h4, h5, h6, rfl⟩
  | y :: l, a, e, h, h2, h3, h4, h5, h6 => by
    rw [rising_cons] at h
    rw [List.cons_append, rising_cons]
    exact ⟨h.1, h.2.1, h.2.2.1, h.2.2.2.1, snoc_rising h.2.2.2.2 (fun x hx => h2 x (by simp [hx])) (h2 y (by simp)) h4 h5 h6⟩

/-- a group and one more edit -/
theorem pgood_ext (s : ByteArray) {qa : Nat} {g : List Ed} {e : Ed} (h0 : 0 ≤ e.f) (h1 : e.f ≤ e.t) (h2 : e.t ≤ (s.size : Int)) (hqa : qa ≤ (lexL s).length) (hpa : ((posB (lexL s) qa : Nat) : Int) ≤ e.f)
    (hg : rising (s.size : Int) (posB (lexL s) qa : Nat) g = true) (hge : ∀ x ∈ g, x.t ≤ e.f)
    (hl : qa = 0 ∨ ∃ q, at10 s q ∧ qa < (lexL s).length ∧ posB (lexL s) qa ≤ q ∧ q < posB (lexL s) (qa + 1) ∧ ∀ x ∈ g ++ [e], ((q : Nat) : Int) < x.f) :
    PGood s qa (metT s (begL (lexL s)) e.t.toNat) (g ++ [e]) := by
  obtain ⟨m1, _, m3, _, m5⟩ := met_spec s (f := e.f.toNat) (t := e.t.toNat) (by omega) (by omega)
  generalize metT s (begL (lexL s)) e.t.toNat = b at m1 m3 m5
  refine ⟨posB_inj_le hqa (by omega), m1, ?_, ?_, ?_⟩
  · exact snoc_rising (rising_up hg (fun x hx => by have := hge x hx; omega)) hge hpa h0 h1 (by omega)
  · rcases hl with h | ⟨q, hq, hq1, hq2, hq3, hq4⟩
    · exact .inl h
    · refine .inr ⟨q, hq, hq1, hq2, hq3, ?_, hq4⟩
      have := hq4 e (by simp)
      rcases Nat.lt_or_ge qa b with h | h
      · exact h
      · have := posB_le (L := lexL s) h
        omega
  · rcases m5 with h | ⟨q, hq, hq1, hq2, hq3, hq4⟩
    · exact .inl h
    · refine .inr ⟨q, hq, hq1, hq2, hq3, by omega, fun x hx => ?_⟩
      rcases List.mem_append.1 hx with hx | hx
      · have := hge x hx; omega
      · have : x = e := by simpa using hx
        subst this; omega
theorem pgood_one (s : ByteArray) {e : Ed} (h0 : 0 ≤ e.f) (h1 : e.f ≤ e.t) (h2 : e.t ≤ (s.size : Int)) :
    PGood s (metF s (begL (lexL s)) e.f.toNat) (metT s (begL (lexL s)) e.t.toNat) [e] := by
  obtain ⟨m1, m2, m3, m4, m5⟩ := met_spec s (f := e.f.toNat) (t := e.t.toNat) (by omega) (by omega)
  have hqa : metF s (begL (lexL s)) e.f.toNat ≤ (lexL s).length := by
    rcases m4 with h | ⟨q, _, h, _⟩
    · omega
    · omega
  exact pgood_ext s (g := []) h0 h1 h2 hqa (by clear m4 m5; omega) rfl (fun x hx => by cases hx) (by
    rcases m4 with h | ⟨q, hq, hq1, hq2, hq3, hq4⟩
    · exact .inl h
    · exact .inr ⟨q, hq, hq1, hq2, hq3, fun x hx => by
        have : x = e := by simpa using hx
        subst this; omega⟩)

theorem chain_last (s : ByteArray) : ∀ {init : List PG} {p : PG} {d : Nat}, Chain s d (init ++ [p]) → PGood s p.1 p.2.1 p.2.2
  | [], p, d, h => h.2.1
  | x :: init, p, d, h => chain_last s (init := init) h.2.2.2
theorem head_snoc (init : List PG) (p q : PG) : (init ++ [p] ++ [q]).head? = (init ++ [p]).head? := by cases init <;> rfl
theorem chain_snoc (s : ByteArray) {q : PG} (hq : PGood s q.1 q.2.1 q.2.2) : ∀ {init : List PG} {p : PG} {d : Nat}, Chain s d (init ++ [p]) → p.2.1 < q.1 → Chain s d (init ++ [p] ++ [q])
  | [], p, d, h, hlt => ⟨h.1, h.2.1, (fun x hx => by
      have : x = q := by simpa using hx.symm
      subst this; exact hlt), Nat.le_of_lt hlt, hq, fun x hx => (by cases hx), hq.bl⟩
  | x :: init, p, d, h, hlt => ⟨h.1, h.2.1, fun y hy => h.2.2.1 y ((head_snoc init p q).symm.trans hy), chain_snoc s hq (init := init) h.2.2.2 hlt⟩
theorem chain_rep (s : ByteArray) {a b b' : Nat} {g g' : List Ed} (hq : PGood s a b' g') : ∀ {init : List PG} {d : Nat}, Chain s d (init ++ [(a, b, g)]) → Chain s d (init ++ [(a, b', g')])
  | [], d, h => ⟨h.1, hq, fun x hx => (by cases hx), hq.bl⟩
  | x :: init, d, h => ⟨h.1, h.2.1, (fun y hy => by
      cases init with
      | nil =>
        have : y = (a, b', g') := by simpa using hy.symm
        subst this
        exact h.2.2.1 (a, b, g) rfl
      | cons z init => exact h.2.2.1 y hy), chain_rep s hq (init := init) h.2.2.2⟩

def pushG (acc : List PG) (p : PG) : List PG :=
  match acc.getLast? with
  | none => [p]
  | some q => if p.1 ≤ q.2.1 then acc.dropLast ++ [(q.1, p.2.1, q.2.2 ++ p.2.2)] else acc ++ [p]
theorem pushG_nil (p : PG) : pushG [] p = [p] := rfl
theorem pushG_snoc (acc : List PG) (q p : PG) : pushG (acc ++ [q]) p = if p.1 ≤ q.2.1 then acc ++ [(q.1, p.2.1, q.2.2 ++ p.2.2)] else acc ++ [q] ++ [p] := by
  unfold pushG
  rw [List.getLast?_concat]
  simp only [List.dropLast_concat]
def oneG (s : ByteArray) (e : Ed) : PG := (metF s (begL (lexL s)) e.f.toNat, metT s (begL (lexL s)) e.t.toNat, [e])
def groups (s : ByteArray) (es : List Ed) : List PG := es.foldl (fun acc e => pushG acc (oneG s e)) []
def spanG (p : PG) : Nat × Nat := (p.1, p.2.1)
theorem push_span (acc : List PG) (p : PG) : (pushG acc p).map spanG = pushP (acc.map spanG) (spanG p) := by
  rcases List.eq_nil_or_concat acc with rfl | ⟨init, q, rfl⟩
  · rfl
  · rw [List.concat_eq_append, pushG_snoc, List.map_append, List.map_cons, List.map_nil, pushP_snoc]
    show List.map spanG (if p.1 ≤ q.2.1 then _ else _) = if p.1 ≤ q.2.1 then _ else _
    split <;> simp [spanG]
theorem fold_span (s : ByteArray) : ∀ (es : List Ed) (acc : List PG), (es.foldl (fun acc e => pushG acc (oneG s e)) acc).map spanG = es.foldl (fun acc e => pushP acc (metP s (begL (lexL s)) e)) (acc.map spanG)
  | [], acc => rfl
  | e :: es, acc => by
    rw [List.foldl_cons, List.foldl_cons, fold_span s es, push_span]
    rfl
theorem groups_span (s : ByteArray) (es : List Ed) : (groups s es).map spanG = partsL s (begL (lexL s)) es := fold_span s es []
theorem allE_append (a b : List PG) : allE (a ++ b) = allE a ++ allE b := by simp [allE]
theorem allE_one (p : PG) : allE [p] = p.2.2 := by simp [allE]
theorem groups_ok (s : ByteArray) : ∀ (n : Nat) (es : List Ed), es.length = n → rising (s.size : Int) 0 es = true →
    allE (groups s es) = es ∧ (groups s es = [] ∨ ∃ init a b g, groups s es = init ++ [(a, b, g)] ∧ g ≠ [] ∧ Chain s 0 (init ++ [(a, b, g)]))
  | 0, es, hn, h => by
    have : es = [] := List.eq_nil_of_length_eq_zero hn
    subst this
    exact ⟨rfl, .inl rfl⟩
  | n + 1, es, hn, h => by
    rcases List.eq_nil_or_concat es with rfl | ⟨l, e, rfl⟩
    · simp at hn
    · rw [List.concat_eq_append] at hn h ⊢
      obtain ⟨r1, r2, r3, r4, r5, r6⟩ := rising_split h
      obtain ⟨ih1, ih2⟩ := groups_ok s n l (by simpa using hn) r1
      have hst : groups s (l ++ [e]) = pushG (groups s l) (oneG s e) := by unfold groups; rw [List.foldl_append]; rfl
      have hone := pgood_one s r4 r5 r6
      rw [hst]
      rcases ih2 with hnil | ⟨init, a, b, g, hG, hne, hch⟩
      · rw [hnil] at ih1 ⊢
        rw [pushG_nil]
        refine ⟨?_, .inr ⟨[], _, _, [e], rfl, by simp, Nat.zero_le _, hone, fun x hx => (by cases hx), hone.bl⟩⟩
        rw [← ih1]; rfl
      · rw [hG] at ih1 ⊢
        have hgl : ∀ x ∈ g, x ∈ l := fun x hx => by
          rw [← ih1, allE_append, allE_one]
          exact List.mem_append_right _ hx
        have hP := chain_last s hch
        simp only at hP
        rw [pushG_snoc]
        by_cases hle : (oneG s e).1 ≤ b
        · rw [if_pos hle]
          have hge : ∀ x ∈ g, x.t ≤ e.f := fun x hx => r2 x (hgl x hx)
          obtain ⟨e0, g', rfl⟩ := List.exists_cons_of_ne_nil hne
          have h00 := rising_mem hP.rise (x := e0) (by simp)
          have h01 := hge e0 (by simp)
          have hE : PGood s a (oneG s e).2.1 (e0 :: g' ++ [e]) := by
            refine pgood_ext s r4 r5 r6 (Nat.le_trans hP.ab hP.bl) (by omega) (rising_up hP.rise (fun x hx => by have := rising_mem h (x := x) (List.mem_append_left _ (hgl x hx)); omega)) hge ?_
            rcases hP.left with h | ⟨q, hq, hq1, hq2, hq3, hq4, hq5⟩
            · exact .inl h
            · refine .inr ⟨q, hq, hq1, hq2, hq3, fun x hx => ?_⟩
              rcases List.mem_append.1 hx with hx | hx
              · exact hq5 x hx
              · have hxe : x = e := by simpa using hx
                subst hxe
                have := hq5 e0 (by simp)
                omega
          refine ⟨?_, .inr ⟨init, a, _, _, rfl, by simp, chain_rep s hE hch⟩⟩
          rw [allE_append, allE_one] at ih1 ⊢
          rw [← ih1, List.append_assoc]; rfl
        · rw [if_neg hle]
          refine ⟨?_, .inr ⟨init ++ [(a, b, g)], _, _, [e], rfl, by simp, ?_⟩⟩
          · rw [allE_append, ih1, allE_one]; rfl
          · exact chain_snoc s (q := oneG s e) hone hch (by show b < (oneG s e).1; omega)
end Go.Proofs.YtkdnacniligjjaaDoor

namespace Go.Proofs.YtkdnacniligjjaaDoor
set_option linter.unusedVariables false
set_option linter.unusedSimpArgs false

theorem byt_mid' (s : ByteArray) (f k : Nat) : byt (s.extract f k) = ((byt s).drop f).take (k - f) := by
  unfold byt
  rw [ByteArray.data_extract, Array.toList_extract, List.extract_eq_take_drop]
theorem editedL_len {t : ByteArray} {z : Nat} (hz : z ≤ t.size) : ∀ {l : List Ed} {a : Nat}, rising (z : Int) a l = true → a ≤ z → ((editedL t z a l).length : Int) = z - a + sumG l
  | [], a, _, h => by simp only [editedL, sumG, sub_length]; omega
  | e :: l, a, h, ha => by
    rw [rising_cons] at h
    have ih := editedL_len hz (l := l) (a := e.t.toNat) (by rw [Int.toNat_of_nonneg (by omega)]; exact h.2.2.2.2) (by omega)
    simp only [editedL, sumG, growE, List.length_append, sub_length]
    have he : e.s.data.toList.length = e.s.size := by rw [Array.length_toList]; rfl
    rw [he]
    omega
theorem sumG_app : ∀ (a b : List Ed), sumG (a ++ b) = sumG a + sumG b
  | [], b => by simp [sumG]
  | e :: a, b => by
    have := sumG_app a b
    simp only [List.cons_append, sumG, this]; omega
theorem moveE_app {o : Int} {after : Bool} {l2 : List Ed} : ∀ (l1 : List Ed) (sh : Int), (∀ x ∈ l1, isBef x o after = true ∧ ¬ (x.f < o ∧ o < x.t)) → moveE o after sh (l1 ++ l2) = moveE o after (sh + sumG l1) l2
  | [], sh, _ => by simp [sumG]
  | e :: l, sh, h => by
    have h1 := h e (by simp)
    simp only [List.cons_append, moveE, sumG]
    rw [if_neg h1.2, if_pos h1.1, moveE_app l _ (fun x hx => h x (by simp [hx])), Int.add_assoc]
theorem moveE_stop {o : Int} {after : Bool} {l : List Ed} {sh : Int} (h : ∀ x, l.head? = some x → isBef x o after = false ∧ o ≤ x.f) : moveE o after sh l = o + sh := by
  cases l with
  | nil => rfl
  | cons e l =>
    have := h e rfl
    simp only [moveE]
    rw [if_neg (by omega), if_neg (by simp [this.1])]
theorem isBef_lt {x : Ed} {o : Int} {after : Bool} (h : x.t < o) : isBef x o after = true ∧ ¬ (x.f < o ∧ o < x.t) := by
  unfold isBef
  rw [if_neg (by omega)]
  exact ⟨by simp; omega, by omega⟩
theorem isBef_le {x : Ed} {o : Int} (h : x.t ≤ o) : isBef x o true = true ∧ ¬ (x.f < o ∧ o < x.t) := by
  unfold isBef
  refine ⟨?_, by omega⟩
  split
  · rfl
  · simp; omega
theorem isBef_no {x : Ed} {o : Int} (h : o ≤ x.f) (h2 : x.f ≤ x.t) : isBef x o false = false := by
  unfold isBef
  split
  · rfl
  · simp; omega
theorem isBef_gt {x : Ed} {o : Int} {after : Bool} (h : o < x.f) (h2 : x.f ≤ x.t) : isBef x o after = false := by
  unfold isBef
  rw [if_neg (by omega)]
  simp; omega
theorem chain_pre (s : ByteArray) {p : PG} {post : List PG} : ∀ (pre : List PG) {d : Nat}, Chain s d (pre ++ p :: post) →
    (∀ x ∈ allE pre, x.t < ((posB (lexL s) p.1 : Nat) : Int)) ∧ rising (posB (lexL s) p.1 : Nat) (posB (lexL s) d : Nat) (allE pre) = true ∧ d ≤ p.1 ∧ PGood s p.1 p.2.1 p.2.2 ∧ (∀ y, post.head? = some y → p.2.1 < y.1) ∧ Chain s p.2.1 post ∧ (∀ y, (pre ++ p :: post).head? = some y → y.1 ≤ p.1)
  | [], d, h => ⟨fun x hx => (by cases hx), rfl, h.1, h.2.1, h.2.2.1, h.2.2.2, fun y hy => (by
      have : p = y := by simpa using hy
      subst this
      exact Nat.le_refl _)⟩
  | y :: pre, d, h => by
    obtain ⟨h1, h2, h3, h4⟩ := h
    obtain ⟨i1, i2, i3, i4, i5, i6, i7⟩ := chain_pre s pre h4
    have hpos : ∀ p ∈ lexL s, 0 < p.2.size := fun p hp => (lexL_each s.size s (Nat.le_refl _) p hp).2
    have hlt : y.2.1 < p.1 := by
      obtain ⟨z, hz⟩ : ∃ z, (pre ++ p :: post).head? = some z := by cases pre <;> exact ⟨_, rfl⟩
      have := h3 z hz
      have := i7 z hz
      omega
    have hpl := posB_lt (L := lexL s) hpos hlt (Nat.le_trans i4.ab i4.bl)
    have hda := posB_le (L := lexL s) h1
    have hab := posB_le (L := lexL s) h2.ab
    refine ⟨fun x hx => ?_, ?_, by have := h2.ab; omega, i4, i5, i6, fun z hz => ?_⟩
    · rcases List.mem_append.1 (show x ∈ y.2.2 ++ allE pre from hx) with hx | hx
      · have := rising_mem h2.rise hx; omega
      · exact i1 x hx
    · show rising _ _ (y.2.2 ++ allE pre) = true
      exact rising_less (rising_app (by omega) i2 (by omega) h2.rise) (by omega)
    · have : y = z := by simpa using hz
      subst this
      have := h2.ab
      omega
theorem part_cut (s : ByteArray) {pre post : List PG} {a b : Nat} {g : List Ed} (h : Chain s 0 (pre ++ (a, b, g) :: post)) :
    ∃ M N : Nat, moveE (posB (lexL s) a : Nat) false 0 (allE (pre ++ (a, b, g) :: post)) = M ∧ moveE (posB (lexL s) b : Nat) true 0 (allE (pre ++ (a, b, g) :: post)) = N ∧ M ≤ N ∧ N ≤ (applyB s (allE (pre ++ (a, b, g) :: post))).size ∧
      (applyB s (allE (pre ++ (a, b, g) :: post))).extract M N = mkB (editedL s (posB (lexL s) b) (posB (lexL s) a) g) := by
  obtain ⟨i1, i2, i3, i4, i5, i6, i7⟩ := chain_pre s pre h
  simp only at i1 i2 i3 i4 i5 i6
  have hE : allE (pre ++ (a, b, g) :: post) = allE pre ++ (g ++ allE post) := by rw [allE_append]; rfl
  have hpos : ∀ p ∈ lexL s, 0 < p.2.size := fun p hp => (lexL_each s.size s (Nat.le_refl _) p hp).2
  have hma := posB_max s a
  have hmb := posB_max s b
  have hab := posB_le (L := lexL s) i4.ab
  have hr2 := chain_rise s post b i6
  have hr3 : rising (s.size : Int) (posB (lexL s) a : Nat) (g ++ allE post) = true := rising_app (by omega) hr2 (by omega) i4.rise
  have hpost : ∀ x, (allE post).head? = some x → ((posB (lexL s) b : Nat) : Int) < x.f ∧ x.f ≤ x.t := fun x hx => by
    have hx2 : x ∈ allE post := List.mem_of_mem_head? hx
    have hr := chain_rise' s (x := (posB (lexL s) b : Nat) + 1) i6 (fun p hp => by
      have e1 := i5 p hp
      have e2 : p.1 ≤ (lexL s).length := by
        cases post with
        | nil => cases hp
        | cons y ps =>
          have : y = p := by simpa using hp
          subst this
          exact Nat.le_trans i6.2.1.ab i6.2.1.bl
      have := posB_lt (L := lexL s) hpos e1 e2
      omega)
    have := rising_mem hr hx2
    omega
  have m1 : moveE (posB (lexL s) a : Nat) false 0 (allE pre ++ (g ++ allE post)) = (posB (lexL s) a : Nat) + sumG (allE pre) := by
    rw [moveE_app (allE pre) 0 (fun x hx => isBef_lt (i1 x hx)), moveE_stop (fun x hx => ?_), Int.zero_add]
    have := rising_mem hr3 (List.mem_of_mem_head? hx)
    exact ⟨isBef_no (by omega) (by omega), by omega⟩
  have m2 : moveE (posB (lexL s) b : Nat) true 0 (allE pre ++ (g ++ allE post)) = (posB (lexL s) b : Nat) + (sumG (allE pre) + sumG g) := by
    rw [← List.append_assoc, moveE_app (allE pre ++ g) 0 (fun x hx => ?_), moveE_stop (fun x hx => ?_), Int.zero_add, sumG_app]
    · have := hpost x hx
      exact ⟨isBef_gt this.1 this.2, by omega⟩
    · refine isBef_le ?_
      rcases List.mem_append.1 hx with hx | hx
      · have := i1 x hx; omega
      · have := rising_mem i4.rise hx; omega
  have e1 := editedL_append (t := s) (z := s.size) (q := posB (lexL s) a) hma hr3 (a := 0) (Nat.zero_le _) i2
  have e2 := editedL_append (t := s) (z := s.size) (q := posB (lexL s) b) hmb hr2 (a := posB (lexL s) a) hab i4.rise
  rw [e2] at e1
  have n1 := editedL_len (t := s) hma (a := 0) i2 (Nat.zero_le _)
  have n2 := editedL_len (t := s) hmb (a := posB (lexL s) a) i4.rise hab
  rw [hE, m1, m2]
  unfold applyB
  rw [e1]
  generalize editedL s (posB (lexL s) a) 0 (allE pre) = A at n1
  generalize editedL s (posB (lexL s) b) (posB (lexL s) a) g = B at n2
  generalize editedL s s.size (posB (lexL s) b) (allE post) = C
  refine ⟨A.length, A.length + B.length, by omega, by omega, by omega, ?_, ?_⟩
  · rw [mkB_size]; simp
  · apply bytj
    rw [byt_mid', byt_mkB, byt_mkB, List.drop_left, Nat.add_sub_cancel_left, List.take_left]
end Go.Proofs.YtkdnacniligjjaaDoor
