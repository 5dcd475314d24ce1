/-
  Plain mathematics of Invert: the inverse gives the string back, keeps Check, and its inverse is the edits.; Plain mathematics of Merge: one edit after the other, in the order of the string between; what is kept while both lists are gone through.
-/
import Derived.Test.YtkdnacniligjjaaDoorRelexCommonsp12
namespace Go.Proofs.YtkdnacniligjjaaDoor
set_option linter.unusedVariables false
set_option linter.unusedSimpArgs false

theorem sub_then (t : ByteArray) (a b : Nat) (h : a ≤ b) : sub t a b ++ (byt t).drop b = (byt t).drop a := by
  rw [sub_eq, show (byt t).drop b = ((byt t).drop a).drop (b - a) by rw [List.drop_drop]; congr 1; omega]
  exact List.take_append_drop _ _

theorem back (t u : ByteArray) : ∀ (l : List Ed) (last p : Nat) (sh : Int), rising t.size last l = true → last ≤ t.size → (p : Int) = last + sh → (byt u).drop p = editedL t t.size last l → p ≤ u.size →
    editedL u u.size p (invertL t sh l) = (byt t).drop last ∧ rising u.size p (invertL t sh l) = true ∧ invertL u (-sh) (invertL t sh l) = l ∧ sumG (invertL t sh l) = - sumG l
  | [], last, p, sh, hr, hl, hp, h, hu => by
    refine ⟨?_, rfl, rfl, rfl⟩
    simp only [invertL, editedL] at h ⊢
    rw [sub_eq] at h ⊢
    change ((byt u).drop p).take _ = _
    rw [h]
    change (((byt t).drop last).take _).take _ = _
    have e := congrArg List.length h
    simp only [List.length_take, List.length_drop, byt_length] at e
    have e2 : t.data.toList.length = t.size := byt_length t
    rw [List.take_of_length_le, List.take_of_length_le]
    · simp only [List.length_drop, byt_length]; omega
    · simp only [List.length_take, List.length_drop, byt_length]; omega
  | ⟨f, z, s⟩ :: l, last, p, sh, hr, hl, hp, h, hu => by
    obtain ⟨h1, h2, h3, h4, hr2⟩ := rising_cons.1 hr
    simp only at h1 h2 h3 h4 hr2
    obtain ⟨x, rfl⟩ : ∃ x : Nat, f = x := ⟨f.toNat, by omega⟩
    obtain ⟨y, rfl⟩ : ∃ y : Nat, z = y := ⟨z.toNat, by omega⟩
    simp only [editedL, Int.toNat_natCast] at h
    obtain ⟨q, hq⟩ : ∃ q : Nat, q = p + (x - last) := ⟨_, rfl⟩
    have hA : (sub t last x).length = q - p := by rw [sub_length]; omega
    have hS : s.data.toList.length = s.size := byt_length s
    have hlen := congrArg List.length h
    simp only [List.length_append, List.length_drop, byt_length, hA, hS] at hlen
    have hq1 : sub u p q = sub t last x := by
      rw [sub_eq]
      change ((byt u).drop p).take _ = _
      rw [h]
      exact List.take_left' hA
    have hq2 : (byt u).drop q = s.data.toList ++ editedL t t.size y l := by
      rw [show q = p + (q - p) by omega, ← List.drop_drop, h]
      exact List.drop_left' hA
    have hq3 : u.extract q (q + s.size) = s := by
      apply byt_inj
      change sub u q (q + s.size) = _
      rw [sub_eq]
      change ((byt u).drop q).take _ = _
      rw [hq2]
      exact List.take_left' (by rw [hS]; omega)
    have hq4 : (byt u).drop (q + s.size) = editedL t t.size y l := by
      rw [← List.drop_drop, hq2]
      exact List.drop_left' hS
    have ih := back t u l y (q + s.size) (sh + ((s.size : Int) - ((y : Int) - x))) hr2 (by omega) (by omega) hq4 (by omega)
    obtain ⟨i1, i2, i3, i4⟩ := ih
    have e1 : (x : Int) + sh = (q : Int) := by omega
    have e2 : (q : Int) + (s.size : Int) = ((q + s.size : Nat) : Int) := by omega
    have hsz : (t.extract x y).size = y - x := by rw [ByteArray.size_extract]; omega
    simp only [invertL, growE, Int.toNat_natCast, e1, e2]
    refine ⟨?_, ?_, ?_, ?_⟩
    · simp only [editedL, Int.toNat_natCast]
      rw [i1, hq1]
      change sub t last x ++ (sub t x y ++ _) = _
      rw [sub_then t x y (by omega), sub_then t last x (by omega)]
    · rw [rising_cons]
      exact ⟨by simp only; omega, by simp only; omega, by simp only; omega, by simp only; omega, i2⟩
    · simp only [hsz, hq3]
      rw [show -sh + (((y - x : Nat) : Int) - (((q + s.size : Nat) : Int) - (q : Int))) = -(sh + ((s.size : Int) - ((y : Int) - x))) by omega, i3]
      congr 2 <;> omega
    · simp only [sumG, growE, hsz, i4]
      omega
theorem back_all (t : ByteArray) (l : List Ed) (h : checkE t.size l = 0) :
    checkE (applyB t l).size (invertL t 0 l) = 0 ∧ applyB (applyB t l) (invertL t 0 l) = t ∧ invertL (applyB t l) 0 (invertL t 0 l) = l := by
  obtain ⟨h1, h2, h3, h4⟩ := checkE_ok h
  have hb : byt (applyB t l) = editedL t t.size 0 l := byt_mkB _
  have hs := applyB_size h3
  obtain ⟨i1, i2, i3, i4⟩ := back t (applyB t l) l 0 0 0 h3 (Nat.zero_le _) rfl hb (Nat.zero_le _)
  refine ⟨checkE_of (by omega) (by rw [invertL_length]; exact h2) i2 (by omega), byt_inj ?_, i3⟩
  exact (byt_mkB _).trans i1
end Go.Proofs.YtkdnacniligjjaaDoor

namespace Go.Proofs.YtkdnacniligjjaaDoor
set_option linter.unusedVariables false
set_option linter.unusedSimpArgs false

theorem sub_add (t : ByteArray) (a b c : Nat) (h : a ≤ b) (h2 : b ≤ c) : sub t a b ++ sub t b c = sub t a c := by
  rw [sub_eq, sub_eq, sub_eq]
  rw [show c - a = (b - a) + (c - b) by omega, List.take_add, List.drop_drop, show a + (b - a) = b by omega]
theorem sub_nil (t : ByteArray) (a b : Nat) (h : b ≤ a) : sub t a b = [] := by
  rw [sub_eq, show b - a = 0 by omega, List.take_zero]

/-- bytes before the first edit stand for themselves -/
theorem editedL_split {t : ByteArray} {z a b : Nat} (hab : a ≤ b) (hbz : b ≤ z) {l : List Ed} (h : rising z b l = true) : editedL t z a l = sub t a b ++ editedL t z b l := by
  cases l with
  | nil => simp only [editedL]; rw [sub_add t a b z hab hbz]
  | cons e l =>
    obtain ⟨h1, h2, h3, h4, _⟩ := rising_cons.1 h
    simp only [editedL]
    rw [← sub_add t a b e.f.toNat hab (by omega), List.append_assoc]
/-- behind the last edit, too -/
theorem editedL_to {t : ByteArray} {z z' : Nat} (hz : z ≤ z') : ∀ {l : List Ed} {a : Nat}, a ≤ z → rising z a l = true → editedL t z' a l = editedL t z a l ++ sub t z z'
  | [], a, ha, _ => by simp only [editedL]; rw [sub_add t a z z' ha hz]
  | e :: l, a, ha, h => by
    obtain ⟨h1, h2, h3, h4, h5⟩ := rising_cons.1 h
    have h5' : rising z (e.t.toNat : Nat) l = true := by rw [show ((e.t.toNat : Nat) : Int) = e.t by omega]; exact h5
    simp only [editedL]
    rw [editedL_to hz (a := e.t.toNat) (by omega) h5']
    simp only [List.append_assoc]
theorem editedL_snoc (t : ByteArray) (z : Nat) (e : Ed) : ∀ (l : List Ed) (a : Nat), editedL t z a (l ++ [e]) = editedL t e.f.toNat a l ++ (e.s.data.toList ++ sub t e.t.toNat z)
  | [], a => by simp only [List.nil_append, editedL]
  | x :: l, a => by
    simp only [List.cons_append, editedL]
    rw [editedL_snoc t z e l]
    simp only [List.append_assoc]
/-- the edits of a part, then those of the rest -/
theorem editedL_append {t : ByteArray} {z q : Nat} (hq : q ≤ z) {l' : List Ed} (h' : rising z q l' = true) : ∀ {l : List Ed} {a : Nat}, a ≤ q → rising q a l = true → editedL t z a (l ++ l') = editedL t q a l ++ editedL t z q l'
  | [], a, ha, _ => by simp only [List.nil_append, editedL]; exact editedL_split ha hq h'
  | e :: l, a, ha, h => by
    obtain ⟨h1, h2, h3, h4, h5⟩ := rising_cons.1 h
    have h5' : rising q (e.t.toNat : Nat) l = true := by rw [show ((e.t.toNat : Nat) : Int) = e.t by omega]; exact h5
    simp only [List.cons_append, editedL]
    rw [editedL_append hq h' (a := e.t.toNat) (by omega) h5']
    simp only [List.append_assoc]
theorem rising_less {n m last : Int} : ∀ {l : List Ed}, rising n last l = true → m ≤ last → rising n m l = true
  | [], _, _ => rfl
  | e :: l, h, hm => by
    obtain ⟨h1, h2, h3, h4, h5⟩ := rising_cons.1 h
    exact rising_cons.2 ⟨by omega, h2, h3, h4, h5⟩
theorem rising_snoc {z : Int} {e : Ed} (h1 : 0 ≤ e.f) (h2 : e.f ≤ e.t) (h3 : e.t ≤ z) : ∀ {l : List Ed} {a : Int}, a ≤ e.f → rising e.f a l = true → rising z a (l ++ [e]) = true
  | [], a, ha, _ => rising_cons.2 ⟨ha, h1, h2, h3, rfl⟩
  | x :: l, a, ha, h => by
    obtain ⟨g1, g2, g3, g4, g5⟩ := rising_cons.1 h
    exact rising_cons.2 ⟨g1, g2, g3, by omega, rising_snoc h1 h2 h3 g4 g5⟩

/-- Merge half done: out is the string that comes out of both lists; a is where it is in the old string, p in the one between -/
structure Semi (T X : ByteArray) (out : List UInt8) (sh : Int) (fs gs ms : List Ed) (a p : Nat) : Prop where
  hp : (p : Int) = a + sh
  ha : a ≤ T.size
  hpX : p ≤ X.size
  rf : rising T.size a fs = true
  rg : rising X.size p gs = true
  dr : (byt X).drop p = editedL T T.size a fs
  rm : rising a 0 ms = true
  ed : editedL T a 0 ms ++ editedL X X.size p gs = out

/-- one more edit is put behind the merged ones -/
theorem Semi.emit {T X : ByteArray} {out : List UInt8} {sh sh' : Int} {fs gs fs' gs' ms : List Ed} {a p a' p' : Nat} (h : Semi T X out sh fs gs ms a p) (fr : Nat) (s : ByteArray)
    (h1 : a ≤ fr) (h2 : fr ≤ a') (hp : (p' : Int) = a' + sh') (ha : a' ≤ T.size) (hpX : p' ≤ X.size) (rf : rising T.size a' fs' = true) (rg : rising X.size p' gs' = true) (dr : (byt X).drop p' = editedL T T.size a' fs')
    (he : editedL X X.size p gs = sub T a fr ++ (s.data.toList ++ editedL X X.size p' gs')) : Semi T X out sh' fs' gs' (ms ++ [⟨fr, a', s⟩]) a' p' := by
  refine ⟨hp, ha, hpX, rf, rg, dr, ?_, ?_⟩
  · refine rising_snoc (by simp only; omega) (by simp only; omega) (by simp only; omega) (by simp only; omega) ?_
    exact rising_more (by simp only; omega) h.rm
  · rw [editedL_snoc, ← h.ed, he]
    simp only [Int.toNat_natCast]
    rw [sub_nil T a' a' (Nat.le_refl _), editedL_to h1 (Nat.zero_le _) h.rm]
    simp only [List.append_assoc, List.nil_append]

/-- what the string between says of the next edit of the first list -/
theorem Semi.first {T X : ByteArray} {out : List UInt8} {sh : Int} {f : Ed} {fs gs ms : List Ed} {a p : Nat} (h : Semi T X out sh (f :: fs) gs ms a p) :
    ∃ x y q : Nat, f.f = x ∧ f.t = y ∧ a ≤ x ∧ x ≤ y ∧ y ≤ T.size ∧ (q : Int) = x + sh ∧ p ≤ q ∧ q + f.s.size ≤ X.size ∧ ((q + f.s.size : Nat) : Int) = y + (sh + growE f) ∧
      sub X p q = sub T a x ∧ sub X q (q + f.s.size) = f.s.data.toList ∧ (byt X).drop (q + f.s.size) = editedL T T.size y fs ∧ rising T.size y fs = true := by
  obtain ⟨h1, h2, h3, h4, hr2⟩ := rising_cons.1 h.rf
  obtain ⟨x, hx⟩ : ∃ x : Nat, f.f = x := ⟨f.f.toNat, by omega⟩
  obtain ⟨y, hy⟩ : ∃ y : Nat, f.t = y := ⟨f.t.toNat, by omega⟩
  have hp := h.hp
  obtain ⟨q, hq⟩ : ∃ q : Nat, q = p + (x - a) := ⟨_, rfl⟩
  have hd := h.dr
  simp only [editedL, hx, hy, Int.toNat_natCast] at hd
  have hA : (sub T a x).length = q - p := by rw [sub_length]; omega
  have hS : f.s.data.toList.length = f.s.size := byt_length f.s
  have hlen := congrArg List.length hd
  simp only [List.length_append, List.length_drop, byt_length, hA, hS] at hlen
  have hpX := h.hpX
  have hq2 : (byt X).drop q = f.s.data.toList ++ editedL T T.size y fs := by
    rw [show q = p + (q - p) by omega, ← List.drop_drop, hd]
    exact List.drop_left' hA
  refine ⟨x, y, q, hx, hy, by omega, by omega, by omega, by omega, by omega, by omega, ?_, ?_, ?_, ?_, ?_⟩
  · simp only [growE, hx, hy]; omega
  · rw [sub_eq]
    change ((byt X).drop p).take _ = _
    rw [hd]
    exact List.take_left' hA
  · rw [sub_eq]
    change ((byt X).drop q).take _ = _
    rw [hq2]
    exact List.take_left' (by rw [hS]; omega)
  · rw [← List.drop_drop, hq2]
    exact List.drop_left' hS
  · rw [← hy]; exact hr2

/-- an edit of the first list that touches none of the second -/
theorem Semi.stepF {T X : ByteArray} {out : List UInt8} {sh : Int} {f : Ed} {fs gs ms : List Ed} {a p : Nat} (h : Semi T X out sh (f :: fs) gs ms a p) (hg : ∀ g l, gs = g :: l → f.f + sh + f.s.size ≤ g.f) :
    ∃ a' p' : Nat, Semi T X out (sh + growE f) fs gs (ms ++ [f]) a' p' := by
  obtain ⟨x, y, q, hx, hy, h1, h2, h3, h4, h5, h6, h7, e1, e2, e3, hr⟩ := h.first
  have hrg : rising X.size (q + f.s.size : Nat) gs = true := by
    have := h.rg
    cases gs with
    | nil => rfl
    | cons g l =>
      have hg1 := hg g l rfl
      obtain ⟨g1, g2, g3, g4, g5⟩ := rising_cons.1 this
      exact rising_cons.2 ⟨by omega, g2, g3, g4, g5⟩
  have hf : f = ⟨(x : Int), (y : Int), f.s⟩ := by cases f; simp_all
  refine ⟨y, q + f.s.size, ?_⟩
  have hE := h.emit (sh' := sh + growE f) (fs' := fs) (gs' := gs) (a' := y) (p' := q + f.s.size) x f.s h1 h2 h7 h3 h6 hr hrg e3 ?_
  · rw [← hf] at hE; exact hE
  · rw [editedL_split (a := p) (b := q + f.s.size) (by omega) h6 hrg, ← sub_add X p q _ (by omega) (by omega), e1, e2]
    simp only [List.append_assoc]

/-- an edit of the second list that touches none of the first: it stands in bytes that the first leaves -/
theorem Semi.stepG {T X : ByteArray} {out : List UInt8} {sh : Int} {g : Ed} {fs gs ms : List Ed} {a p : Nat} (h : Semi T X out sh fs (g :: gs) ms a p) (hf : ∀ f l, fs = f :: l → g.t ≤ f.f + sh) :
    ∃ a' p' : Nat, Semi T X out sh fs gs (ms ++ [⟨g.f - sh, g.t - sh, g.s⟩]) a' p' := by
  obtain ⟨h1, h2, h3, h4, hr2⟩ := rising_cons.1 h.rg
  have hp := h.hp
  have hpX := h.hpX
  have ha := h.ha
  -- the bytes there
  have hlenX := congrArg List.length h.dr
  obtain ⟨x, hx⟩ : ∃ x : Nat, (x : Int) = g.f - sh := ⟨(g.f - sh).toNat, by omega⟩
  obtain ⟨y, hy⟩ : ∃ y : Nat, (y : Int) = g.t - sh := ⟨(g.t - sh).toNat, by omega⟩
  have hyT : y ≤ T.size ∧ rising T.size y fs = true := by
    have hrf := h.rf
    cases fs with
    | nil =>
      simp only [editedL, List.length_drop, byt_length, sub_length] at hlenX
      exact ⟨by omega, rfl⟩
    | cons f l =>
      have hf1 := hf f l rfl
      obtain ⟨f1, f2, f3, f4, f5⟩ := rising_cons.1 hrf
      exact ⟨by omega, rising_cons.2 ⟨by omega, f2, f3, f4, f5⟩⟩
  obtain ⟨p', hp'⟩ : ∃ p' : Nat, (p' : Int) = g.t := ⟨g.t.toNat, by omega⟩
  obtain ⟨q, hq⟩ : ∃ q : Nat, (q : Int) = g.f := ⟨g.f.toNat, by omega⟩
  have hsp := editedL_split (t := T) (z := T.size) (a := a) (b := y) (by omega) hyT.1 hyT.2
  have hA : (sub T a y).length = p' - p := by rw [sub_length]; omega
  have hdr : (byt X).drop p' = editedL T T.size y fs := by
    rw [show p' = p + (p' - p) by omega, ← List.drop_drop, h.dr, hsp]
    exact List.drop_left' hA
  have hsx : sub X p q = sub T a x := by
    rw [sub_eq]
    change ((byt X).drop p).take _ = _
    rw [h.dr, hsp, ← sub_add T a x y (by omega) (by omega), List.append_assoc]
    exact List.take_left' (by rw [sub_length]; omega)
  refine ⟨y, p', ?_⟩
  have hE := h.emit (sh' := sh) (fs' := fs) (gs' := gs) (a' := y) (p' := p') x g.s (by omega) (by omega) (by omega) hyT.1 (by omega) hyT.2 (by rw [hp']; exact hr2) hdr ?_
  · rw [hx, hy] at hE; exact hE
  · simp only [editedL]
    rw [show g.f.toNat = q by omega, show g.t.toNat = p' by omega, hsx]
end Go.Proofs.YtkdnacniligjjaaDoor
