/-
  Plain mathematics of Merge: edits that touch become one.
-/
import Derived.Test.YtkdnacniligjjaaDoorRelexCommonsp13
namespace Go.Proofs.YtkdnacniligjjaaDoor
set_option linter.unusedVariables false
set_option linter.unusedSimpArgs false

/-- while edits that touch are taken: l1, l2 are the ends of the last New of the first list that is taken, lg the last edit of the second, tk all that are taken of the second -/
structure Mid (T X : ByteArray) (gs0 : List Ed) (A fr : Nat) (sh : Int) (l1 l2 : Nat) (lg : Ed) (fs gs tk : List Ed) (y u : Nat) : Prop where
  hl : (l2 : Int) = y + sh
  hy : y ≤ T.size
  hlX : l2 ≤ X.size
  hu : lg.t = u
  huX : u ≤ X.size
  t1 : lg.f ≤ l2
  t2 : l1 ≤ u
  hA1 : A ≤ l1
  h12 : l1 ≤ l2
  hfr : fr ≤ y
  rf : rising T.size y fs = true
  rg : rising X.size u gs = true
  dr : (byt X).drop l2 = editedL T T.size y fs
  rt : rising u A tk = true
  hgs : gs0 = tk ++ gs

theorem Mid.takeF {T X : ByteArray} {gs0 : List Ed} {A fr : Nat} {sh : Int} {l1 l2 : Nat} {lg f : Ed} {fs gs tk : List Ed} {y u : Nat} (h : Mid T X gs0 A fr sh l1 l2 lg (f :: fs) gs tk y u) (ht : f.f + sh ≤ lg.t) :
    ∃ l1' l2' y' : Nat, (l1' : Int) = f.f + sh ∧ (l2' : Int) = f.f + sh + f.s.size ∧ Mid T X gs0 A fr (sh + growE f) l1' l2' lg fs gs tk y' u := by
  obtain ⟨x, y', q, hx, hy', h1, h2, h3, h4, h5, h6, h7, e1, e2, e3, hr⟩ := (show Semi T X _ sh (f :: fs) [] [] y l2 from ⟨h.hl, h.hy, h.hlX, h.rf, rfl, h.dr, rfl, rfl⟩).first
  have a1 := h.hu
  have a2 := h.t1
  have a3 := h.t2
  have a4 := h.hA1
  have a5 := h.h12
  have a6 := h.hfr
  have a7 := h.hl
  refine ⟨q, q + f.s.size, y', by omega, by omega, ⟨h7, h3, h6, h.hu, h.huX, by omega, by omega, by omega, by omega, by omega, hr, h.rg, e3, h.rt, h.hgs⟩⟩

theorem Mid.takeG {T X : ByteArray} {gs0 : List Ed} {A fr : Nat} {sh : Int} {l1 l2 : Nat} {lg g : Ed} {fs gs tk : List Ed} {y u : Nat} (h : Mid T X gs0 A fr sh l1 l2 lg fs (g :: gs) tk y u) (ht : g.f ≤ l2) :
    ∃ u' : Nat, g.t = u' ∧ Mid T X gs0 A fr sh l1 l2 g fs gs (tk ++ [g]) y u' := by
  obtain ⟨g1, g2, g3, g4, g5⟩ := rising_cons.1 h.rg
  obtain ⟨u', hu'⟩ : ∃ u' : Nat, g.t = u' := ⟨g.t.toNat, by omega⟩
  have a3 := h.t2
  have a4 := h.hA1
  refine ⟨u', hu', ⟨h.hl, h.hy, h.hlX, hu', by omega, ht, by omega, h.hA1, h.h12, h.hfr, h.rf, by rw [← hu']; exact g5, h.dr, ?_, ?_⟩⟩
  · exact rising_snoc g2 g3 (by omega) (by omega) (rising_more g1 h.rt)
  · rw [h.hgs]; simp

theorem Mid.start {T X : ByteArray} {out : List UInt8} {sh : Int} {f g : Ed} {fs gs ms : List Ed} {a p : Nat} (h : Semi T X out sh (f :: fs) (g :: gs) ms a p) (t1 : g.f ≤ f.f + sh + f.s.size) (t2 : f.f + sh ≤ g.t) :
    ∃ A fr l1 l2 y u : Nat, (A : Int) = min (f.f + sh) g.f ∧ (fr : Int) = A - sh ∧ (l1 : Int) = f.f + sh ∧ (l2 : Int) = f.f + sh + f.s.size ∧ g.t = u ∧ a ≤ fr ∧ p ≤ A ∧ sub X p A = sub T a fr ∧
      Mid T X (g :: gs) A fr (sh + growE f) l1 l2 g fs gs [g] y u := by
  obtain ⟨x, y, q, hx, hy', h1, h2, h3, h4, h5, h6, h7, e1, e2, e3, hr⟩ := h.first
  obtain ⟨g1, g2, g3, g4, g5⟩ := rising_cons.1 h.rg
  obtain ⟨u, hu⟩ : ∃ u : Nat, g.t = u := ⟨g.t.toNat, by omega⟩
  obtain ⟨A, hA⟩ : ∃ A : Nat, (A : Int) = min (f.f + sh) g.f := ⟨(min (f.f + sh) g.f).toNat, by omega⟩
  have hp := h.hp
  obtain ⟨fr, hfr⟩ : ∃ fr : Nat, (fr : Int) = A - sh := ⟨((A : Int) - sh).toNat, by omega⟩
  have hs : sub X p A = sub T a fr := by
    have hm := congrArg (List.take (A - p)) e1
    rw [← sub_add X p A q (by omega) (by omega), ← sub_add T a fr x (by omega) (by omega)] at hm
    rw [List.take_left' (by rw [sub_length]; omega), List.take_left' (by rw [sub_length]; omega)] at hm
    exact hm
  refine ⟨A, fr, q, q + f.s.size, y, u, hA, hfr, by omega, by omega, hu, by omega, by omega, hs, ⟨h7, h3, h6, hu, by omega, by omega, by omega, by omega, by omega, by omega, hr, by rw [← hu]; exact g5, e3, ?_, rfl⟩⟩
  exact rising_cons.2 ⟨by omega, g2, g3, by omega, rfl⟩

/-- no other one touches: all that are taken become one edit -/
theorem Mid.stop {T X : ByteArray} {out : List UInt8} {sh0 sh : Int} {fs0 gs0 fs gs ms tk : List Ed} {a p A fr l1 l2 y u : Nat} {lg : Ed} (h : Semi T X out sh0 fs0 gs0 ms a p) (hM : Mid T X gs0 A fr sh l1 l2 lg fs gs tk y u)
    (h1 : a ≤ fr) (h2 : p ≤ A) (h3 : sub X p A = sub T a fr) (hf : ∀ f l, fs = f :: l → ¬ (lg.f ≤ f.f + sh + f.s.size ∧ f.f + sh ≤ lg.t)) (hg : ∀ g l, gs = g :: l → ¬ (g.f ≤ l2 ∧ (l1 : Int) ≤ g.t)) :
    ∃ a' : Nat, (a' : Int) = (max l2 u : Nat) - sh ∧ Semi T X out sh fs gs (ms ++ [⟨fr, a', mkB (editedL X (max l2 u) A tk)⟩]) a' (max l2 u) ∧ A ≤ max l2 u ∧ max l2 u ≤ X.size ∧ rising (max l2 u : Nat) A tk = true := by
  obtain ⟨Z, hZ⟩ : ∃ Z, Z = max l2 u := ⟨_, rfl⟩
  rw [← hZ]
  have a1 := hM.hl
  have a2 := hM.hy
  have a3 := hM.hlX
  have a4 := hM.huX
  have a5 := hM.t1
  have a6 := hM.t2
  have a7 := hM.hA1
  have a8 := hM.h12
  have a9 := hM.hfr
  have a0 := hM.hu
  have hlenX := congrArg List.length hM.dr
  have hZl : l2 ≤ Z ∧ u ≤ Z ∧ Z ≤ X.size := by omega
  obtain ⟨a', ha'⟩ : ∃ a' : Nat, (a' : Int) = Z - sh := ⟨((Z : Int) - sh).toNat, by omega⟩
  have hyT : a' ≤ T.size ∧ rising T.size a' fs = true := by
    have hrf := hM.rf
    cases fs with
    | nil =>
      simp only [editedL, List.length_drop, byt_length, sub_length] at hlenX
      exact ⟨by omega, rfl⟩
    | cons f l =>
      have hf1 := hf f l rfl
      obtain ⟨f1, f2, f3, f4, f5⟩ := rising_cons.1 hrf
      exact ⟨by omega, rising_cons.2 ⟨by omega, f2, f3, f4, f5⟩⟩
  have hrg : rising X.size Z gs = true := by
    have := hM.rg
    cases gs with
    | nil => rfl
    | cons g l =>
      have hg1 := hg g l rfl
      obtain ⟨g1, g2, g3, g4, g5⟩ := rising_cons.1 this
      exact rising_cons.2 ⟨by omega, g2, g3, g4, g5⟩
  have hsp := editedL_split (t := T) (z := T.size) (a := y) (b := a') (by omega) hyT.1 hyT.2
  have hdr : (byt X).drop Z = editedL T T.size a' fs := by
    rw [show Z = l2 + (Z - l2) by omega, ← List.drop_drop, hM.dr, hsp]
    exact List.drop_left' (by rw [sub_length]; omega)
  have hrt : rising Z A tk = true := rising_more (by omega) hM.rt
  have hrt2 : rising Z p tk = true := rising_less hrt (by omega)
  refine ⟨a', ha', ?_, by omega, by omega, hrt⟩
  refine h.emit (sh' := sh) (fs' := fs) (gs' := gs) (a' := a') (p' := Z) fr (mkB (editedL X Z A tk)) h1 (by omega) (by omega) hyT.1 (by omega) hyT.2 hrg hdr ?_
  rw [hM.hgs, editedL_append hZl.2.2 hrg (a := p) (by omega) hrt2, editedL_split h2 (by omega) hrt, h3, mkB_toList, List.append_assoc]

theorem Semi.begin_ {T : ByteArray} {first second : List Ed} (h1 : rising T.size 0 first = true) (h2 : rising (applyB T first).size 0 second = true) :
    Semi T (applyB T first) (editedL (applyB T first) (applyB T first).size 0 second) 0 first second [] 0 0 := by
  refine ⟨rfl, Nat.zero_le _, Nat.zero_le _, h1, h2, ?_, rfl, ?_⟩
  · exact byt_mkB _
  · simp only [editedL]; rw [sub_nil T 0 0 (Nat.le_refl _)]; rfl
/-- both lists are done: the merged edits make what the one and then the other make -/
theorem Semi.end_ {T X : ByteArray} {out : List UInt8} {sh : Int} {ms : List Ed} {a p : Nat} (h : Semi T X out sh [] [] ms a p) :
    rising T.size 0 ms = true ∧ editedL T T.size 0 ms = out := by
  refine ⟨rising_more (by have := h.ha; omega) h.rm, ?_⟩
  rw [← h.ed, editedL_to h.ha (Nat.zero_le _) h.rm]
  congr 1
  have hd := h.dr
  simp only [editedL] at hd ⊢
  rw [← hd, sub_eq]
  change _ = ((byt X).drop p).take _
  exact (List.take_of_length_le (by rw [List.length_drop, byt_length]; exact Nat.le_refl _)).symm
end Go.Proofs.YtkdnacniligjjaaDoor
