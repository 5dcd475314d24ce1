/-
  Plain mathematics of Move: order, bounds, and the bytes between two offsets.; Plain mathematics of Diff: it makes the new string, and no other single edit that does is shorter.; Plain mathematics of placed and Invert.
-/
import Derived.Test.YtkdnacniligjjaaDoorRelexCommonsp1
namespace Go.Proofs.YtkdnacniligjjaaDoor
set_option linter.unusedVariables false
set_option linter.unusedSimpArgs false

theorem sumG_low {n : Int} : ∀ {l : List Ed} {last : Int}, rising n last l = true → last ≤ n → last ≤ n + sumG l
  | [], _, _, h => by simp [sumG]; omega
  | e :: l, last, h, hl => by
    rw [rising_cons] at h
    have := sumG_low h.2.2.2.2 (by omega)
    simp only [sumG, growE]
    omega
/-- not before an edit, and not inside of it: at most its beginning -/
theorem not_bef {e : Ed} {o : Int} {after : Bool} (h1 : ¬ (e.f < o ∧ o < e.t)) (h2 : isBef e o after = false) (hft : e.f ≤ e.t) : o ≤ e.f ∧ (o = e.t → after = false) := by
  unfold isBef at h2
  by_cases h : e.f = o ∧ e.t = o
  · rw [if_pos h] at h2; exact ⟨by omega, fun _ => h2⟩
  · rw [if_neg h] at h2; simp at h2; exact ⟨by omega, fun _ => by omega⟩
theorem is_bef {e : Ed} {o : Int} {after : Bool} (h2 : isBef e o after = true) : e.t ≤ o ∧ (e.f = o → e.t = o → after = true) := by
  unfold isBef at h2
  by_cases h : e.f = o ∧ e.t = o
  · rw [if_pos h] at h2; exact ⟨by omega, fun _ _ => h2⟩
  · rw [if_neg h] at h2; simp at h2; exact ⟨h2, fun h3 h4 => absurd ⟨h3, h4⟩ h⟩
theorem move_bounds {n o : Int} {after : Bool} : ∀ {l : List Ed} {last sh : Int}, rising n last l = true → last ≤ o → o ≤ n → last + sh ≤ moveE o after sh l ∧ moveE o after sh l ≤ n + sh + sumG l
  | [], last, sh, _, h1, h2 => by simp [moveE, sumG]; omega
  | e :: l, last, sh, h, h1, h2 => by
    rw [rising_cons] at h
    have hlow := sumG_low h.2.2.2.2 (by omega)
    simp only [moveE, sumG]
    by_cases hi : e.f < o ∧ o < e.t
    · rw [if_pos hi]; simp only [growE]; omega
    · rw [if_neg hi]
      by_cases hb : isBef e o after = true
      · rw [if_pos hb]
        have h3 := (is_bef hb).1
        have ih := move_bounds (after := after) (sh := sh + growE e) h.2.2.2.2 h3 h2
        simp only [growE] at ih ⊢
        omega
      · rw [if_neg hb]
        have h3 := (not_bef hi (Bool.eq_false_iff.2 hb) (by omega)).1
        simp only [growE]
        omega
theorem move_mono {n o1 o2 : Int} {after : Bool} (ho : o1 ≤ o2) : ∀ {l : List Ed} {last sh : Int}, rising n last l = true → last ≤ o1 → o2 ≤ n → moveE o1 after sh l ≤ moveE o2 after sh l
  | [], last, sh, _, h1, h2 => by simp [moveE]; omega
  | e :: l, last, sh, h, h1, h2 => by
    rw [rising_cons] at h
    simp only [moveE]
    by_cases hi1 : e.f < o1 ∧ o1 < e.t
    · rw [if_pos hi1]
      by_cases hi2 : e.f < o2 ∧ o2 < e.t
      · rw [if_pos hi2]; omega
      · rw [if_neg hi2]
        by_cases hb2 : isBef e o2 after = true
        · rw [if_pos hb2]
          have := (move_bounds (after := after) (sh := sh + growE e) h.2.2.2.2 (is_bef hb2).1 h2).1
          simp only [growE] at this ⊢
          omega
        · have := (not_bef hi2 (Bool.eq_false_iff.2 hb2) (by omega)).1
          omega
    · rw [if_neg hi1]
      by_cases hb1 : isBef e o1 after = true
      · rw [if_pos hb1]
        obtain ⟨h3, h4⟩ := is_bef hb1
        by_cases hi2 : e.f < o2 ∧ o2 < e.t
        · omega
        · rw [if_neg hi2]
          by_cases hb2 : isBef e o2 after = true
          · rw [if_pos hb2]
            exact move_mono ho h.2.2.2.2 h3 h2
          · obtain ⟨h5, h6⟩ := not_bef hi2 (Bool.eq_false_iff.2 hb2) (by omega)
            have e1 : o2 = e.t := by omega
            have h7 := h6 e1
            have h8 := h4 (by omega) (by omega)
            rw [h7] at h8
            cases h8
      · rw [if_neg hb1]
        have h3 := (not_bef hi1 (Bool.eq_false_iff.2 hb1) (by omega)).1
        by_cases hi2 : e.f < o2 ∧ o2 < e.t
        · rw [if_pos hi2]; omega
        · rw [if_neg hi2]
          by_cases hb2 : isBef e o2 after = true
          · rw [if_pos hb2]
            have := (move_bounds (after := after) (sh := sh + growE e) h.2.2.2.2 (is_bef hb2).1 h2).1
            simp only [growE] at this ⊢
            omega
          · rw [if_neg hb2]; omega

/-- the edit has no offset in common with those from a to b -/
def apart (e : Ed) (a b : Int) : Prop := e.t < a ∨ b < e.f
theorem sub_sub (t : ByteArray) (a b c d : Nat) (h1 : a ≤ c) (h2 : c ≤ d) (h3 : d ≤ b) (h4 : b ≤ t.size) : ((sub t a b).take (d - a)).drop (c - a) = sub t c d := by
  rw [sub_eq, sub_eq, List.take_take, List.drop_take, List.drop_drop]
  rw [show min (d - a) (b - a) - (c - a) = d - c by omega, show a + (c - a) = c by omega]
theorem bytes_kept {t : ByteArray} {after : Bool} {a b : Nat} (hab : a ≤ b) (hb : b ≤ t.size) : ∀ {l : List Ed} {last : Nat} {sh : Int}, rising t.size last l = true → last ≤ a → (∀ e ∈ l, apart e a b) →
    ∃ S : Int, moveE a after sh l = a + sh + S ∧ moveE b after sh l = b + sh + S ∧ (last : Int) ≤ a + S ∧
      ((editedL t t.size last l).take ((b : Int) + S - last).toNat).drop ((a : Int) + S - last).toNat = sub t a b
  | [], last, sh, _, h1, _ => by
    refine ⟨0, by simp [moveE], by simp [moveE], by omega, ?_⟩
    simp only [editedL]
    rw [show ((b : Int) + 0 - last).toNat = b - last by omega, show ((a : Int) + 0 - last).toNat = a - last by omega]
    exact sub_sub t last t.size a b h1 hab hb (Nat.le_refl _)
  | e :: l, last, sh, h, h1, hap => by
    rw [rising_cons] at h
    have hlen : (sub t last e.f.toNat).length = e.f.toNat - last := by rw [sub_length]; omega
    rcases hap e (by simp) with he | he
    · obtain ⟨S, s1, s2, s3, s4⟩ := bytes_kept hab hb (sh := sh + growE e) (last := e.t.toNat) (l := l) (by rw [Int.toNat_of_nonneg (by omega)]; exact h.2.2.2.2) (by omega) (fun x hx => hap x (by simp [hx]))
      have hba : isBef e a after = true := by unfold isBef; rw [if_neg (by omega)]; simp; omega
      have hbb : isBef e b after = true := by unfold isBef; rw [if_neg (by omega)]; simp; omega
      refine ⟨growE e + S, ?_, ?_, ?_, ?_⟩
      · simp only [moveE]; rw [if_neg (by omega), if_pos hba, s1]; omega
      · simp only [moveE]; rw [if_neg (by omega), if_pos hbb, s2]; omega
      · simp only [growE]; omega
      · have hp : (sub t last e.f.toNat ++ e.s.data.toList).length = e.f.toNat - last + e.s.size := by rw [List.length_append, hlen, size_toList]
        simp only [editedL]
        rw [← List.append_assoc]
        have k1 : ((b : Int) + (growE e + S) - last).toNat = (e.f.toNat - last + e.s.size) + ((b : Int) + S - e.t.toNat).toNat := by simp only [growE]; omega
        have k2 : ((a : Int) + (growE e + S) - last).toNat = (e.f.toNat - last + e.s.size) + ((a : Int) + S - e.t.toNat).toNat := by simp only [growE]; omega
        rw [k1, k2, ← hp, List.take_length_add_append, List.drop_length_add_append]
        exact s4
    · have hia : ¬ (e.f < a ∧ (a : Int) < e.t) := by omega
      have hib : ¬ (e.f < b ∧ (b : Int) < e.t) := by omega
      have hba : ¬ isBef e a after = true := by unfold isBef; rw [if_neg (by omega)]; simp; omega
      have hbb : ¬ isBef e b after = true := by unfold isBef; rw [if_neg (by omega)]; simp; omega
      refine ⟨0, ?_, ?_, by omega, ?_⟩
      · simp only [moveE]; rw [if_neg hia, if_neg hba]; omega
      · simp only [moveE]; rw [if_neg hib, if_neg hbb]; omega
      · simp only [editedL]
        rw [show ((b : Int) + 0 - last).toNat = b - last by omega, show ((a : Int) + 0 - last).toNat = a - last by omega]
        rw [List.take_append_of_le_length (by rw [hlen]; omega)]
        exact sub_sub t last e.f.toNat a b h1 hab (by omega) (by omega)

theorem rising_more {n m : Int} (hnm : n ≤ m) : ∀ {l : List Ed} {last : Int}, rising n last l = true → rising m last l = true
  | [], _, _ => rfl
  | e :: l, last, h => by
    rw [rising_cons] at h ⊢
    exact ⟨h.1, h.2.1, h.2.2.1, by omega, rising_more hnm h.2.2.2.2⟩
theorem editedL_length {t : ByteArray} : ∀ {l : List Ed} {last : Nat}, rising t.size last l = true → last ≤ t.size → ((editedL t t.size last l).length : Int) = t.size - last + sumG l
  | [], last, _, h => by simp only [editedL, sumG, sub_length]; omega
  | e :: l, last, h, hl => by
    rw [rising_cons] at h
    have ih := editedL_length (l := l) (last := e.t.toNat) (by rw [Int.toNat_of_nonneg (by omega)]; exact h.2.2.2.2) (by omega)
    simp only [editedL, sumG, growE, List.length_append, sub_length, size_toList]
    omega
theorem applyB_size {t : ByteArray} {l : List Ed} (h : rising t.size 0 l = true) : ((applyB t l).size : Int) = t.size + sumG l := by
  unfold applyB
  rw [mkB_size, editedL_length h (Nat.zero_le _)]
  simp
end Go.Proofs.YtkdnacniligjjaaDoor

namespace Go.Proofs.YtkdnacniligjjaaDoor
set_option linter.unusedVariables false
set_option linter.unusedSimpArgs false

theorem cpre_take : ∀ (x y : List UInt8), x.take (cpre x y) = y.take (cpre x y)
  | [], y => by simp [cpre]
  | a :: x, [] => by simp [cpre]
  | a :: x, b :: y => by
    simp only [cpre]
    by_cases h : a = b
    · rw [if_pos h, List.take_succ_cons, List.take_succ_cons, cpre_take x y, h]
    · rw [if_neg h]; simp
theorem cpre_ge : ∀ (k : Nat) (x y : List UInt8), k ≤ x.length → k ≤ y.length → x.take k = y.take k → k ≤ cpre x y
  | 0, _, _, _, _, _ => Nat.zero_le _
  | k + 1, [], y, h, _, _ => by simp at h
  | k + 1, a :: x, [], _, h, _ => by simp at h
  | k + 1, a :: x, b :: y, h1, h2, h3 => by
    rw [List.take_succ_cons, List.take_succ_cons] at h3
    injection h3 with h4 h5
    simp only [cpre]
    rw [if_pos h4]
    have := cpre_ge k x y (by simpa using h1) (by simpa using h2) h5
    omega
theorem take_reverse_drop (u : List UInt8) (r : Nat) (h : r ≤ u.length) : u.reverse.take r = (u.drop (u.length - r)).reverse := by
  rw [List.take_reverse]

/-- p, r: common beginning, and common end behind it -/
theorem diff_parts (x y : List UInt8) : ∃ p r : Nat, p = cpre x y ∧ r = cpre (x.drop p).reverse (y.drop p).reverse ∧ p + r ≤ x.length ∧ p + r ≤ y.length ∧ x.take p = y.take p ∧ x.drop (x.length - r) = y.drop (y.length - r) := by
  refine ⟨_, _, rfl, rfl, ?_⟩
  have hp := cpre_le x y
  have hr := cpre_le (x.drop (cpre x y)).reverse (y.drop (cpre x y)).reverse
  rw [List.length_reverse, List.length_reverse, List.length_drop, List.length_drop] at hr
  have ht := cpre_take (x.drop (cpre x y)).reverse (y.drop (cpre x y)).reverse
  generalize cpre (x.drop (cpre x y)).reverse (y.drop (cpre x y)).reverse = r at *
  refine ⟨by omega, by omega, cpre_take x y, ?_⟩
  rw [take_reverse_drop _ _ (by rw [List.length_drop]; omega), take_reverse_drop _ _ (by rw [List.length_drop]; omega)] at ht
  have ht2 := List.reverse_inj.1 ht
  rw [List.drop_drop, List.drop_drop, List.length_drop, List.length_drop] at ht2
  rw [show cpre x y + (x.length - cpre x y - r) = x.length - r by omega, show cpre x y + (y.length - cpre x y - r) = y.length - r by omega] at ht2
  exact ht2

theorem byt_mkB (l : List UInt8) : byt (mkB l) = l := mkB_toList l
theorem byt_inj {a b : ByteArray} (h : byt a = byt b) : a = b := by
  have := congrArg mkB h
  unfold byt at this
  rwa [mkB_of, mkB_of] at this

theorem diff_makes (a b : ByteArray) (hb : b.size ≤ 20000) (ha : a.size ≤ 20000) : checkE a.size (diffL a b) = 0 ∧ applyB a (diffL a b) = b := by
  by_cases h : a = b
  · subst h
    have e : diffL a a = [] := by unfold diffL; simp
    rw [e]
    refine ⟨checkE_of (by omega) (by simp) rfl (by simp [sumG]; omega), ?_⟩
    unfold applyB
    simp only [editedL]
    apply byt_inj
    rw [byt_mkB, sub_eq]
    simp [byt]
    exact List.take_of_length_le (by rw [size_toList]; omega)
  · obtain ⟨p, r, hp, hr, h1, h2, h3, h4⟩ := diff_parts (byt a) (byt b)
    have e : diffL a b = [⟨p, (a.size : Int) - r, b.extract p (b.size - r)⟩] := by
      unfold diffL; rw [if_neg h, ← hp, ← hr]
    rw [byt_length] at h1 h2 h4
    rw [byt_length] at h4
    rw [e]
    have hsz : (b.extract p (b.size - r)).size = b.size - r - p := by rw [ByteArray.size_extract]; omega
    refine ⟨checkE_of (by omega) (by simp) ?_ ?_, ?_⟩
    · rw [rising_cons]; exact ⟨by simp, by simp, by simp; omega, by simp; omega, rfl⟩
    · simp only [sumG, growE, hsz]; omega
    · unfold applyB
      simp only [editedL]
      apply byt_inj
      rw [byt_mkB, Int.toNat_natCast, show ((a.size : Int) - r).toNat = a.size - r by omega]
      have s1 : sub a 0 p = (byt b).take p := by rw [← h3, sub_eq]; simp [byt]
      have s2 : sub a (a.size - r) a.size = (byt b).drop (b.size - r) := by
        rw [← h4, sub_eq]
        apply List.take_of_length_le
        simp [size_toList]
      have s3 : (b.extract p (b.size - r)).data.toList = ((byt b).take (b.size - r)).drop p := by
        show sub b p (b.size - r) = _
        rw [sub_eq, List.drop_take]; rfl
      rw [s1, s2, s3]
      have s4 : (byt b).take p = ((byt b).take (b.size - r)).take p := by rw [List.take_take, show min p (b.size - r) = p by omega]
      rw [s4, ← List.append_assoc, List.take_append_drop, List.take_append_drop]

theorem diff_least (t : ByteArray) (e : Ed) (h : checkE t.size [e] = 0) :
    (diffL t (applyB t [e]) = [] ↔ t = applyB t [e]) ∧ ∀ d, diffL t (applyB t [e]) = [d] → d.t - d.f + d.s.size ≤ e.t - e.f + e.s.size := by
  have hok := checkE_ok h
  have hr := hok.2.2.1
  rw [rising_cons] at hr
  have hsz : ((applyB t [e]).size : Int) = t.size + growE e := by rw [applyB_size hok.2.2.1]; simp [sumG]
  refine ⟨?_, ?_⟩
  · unfold diffL
    by_cases hx : t = applyB t [e]
    · rw [if_pos hx]; simp [← hx]
    · rw [if_neg hx]; simp [hx]
  · intro d hd
    by_cases hx : t = applyB t [e]
    · have : diffL t (applyB t [e]) = [] := by unfold diffL; rw [if_pos hx]
      rw [this] at hd; cases hd
    · obtain ⟨p, r, hp, hrr, h1, h2, h3, h4⟩ := diff_parts (byt t) (byt (applyB t [e]))
      have e1 : diffL t (applyB t [e]) = [⟨p, (t.size : Int) - r, (applyB t [e]).extract p ((applyB t [e]).size - r)⟩] := by
        unfold diffL; rw [if_neg hx, ← hp, ← hrr]
      rw [e1] at hd
      injection hd with hd _
      subst hd
      have hbx : byt (applyB t [e]) = sub t 0 e.f.toNat ++ (e.s.data.toList ++ sub t e.t.toNat t.size) := by
        unfold applyB; rw [byt_mkB]; rfl
      have hl1 : (sub t 0 e.f.toNat).length = e.f.toNat := by rw [sub_length]; omega
      have hl2 : (sub t e.t.toNat t.size).length = t.size - e.t.toNat := by rw [sub_length]; omega
      have hxl : (byt (applyB t [e])).length = e.f.toNat + (e.s.size + (t.size - e.t.toNat)) := by
        rw [hbx, List.length_append, List.length_append, hl1, hl2, size_toList]
      rw [byt_length] at h1
      have hF : e.f.toNat ≤ p := by
        rw [hp]
        apply cpre_ge
        · rw [byt_length]; omega
        · rw [hxl]; omega
        · rw [hbx, List.take_append_of_le_length (by rw [hl1]; omega), List.take_of_length_le (l := sub t 0 e.f.toNat) (by rw [hl1]; omega), sub_eq]
          simp [byt]
      -- the common end
      have key : ∀ m : Nat, m ≤ t.size - e.t.toNat → m ≤ t.size - p → m ≤ (byt (applyB t [e])).length - p → m ≤ r := by
        intro m m1 m2 m3
        rw [hrr]
        apply cpre_ge
        · rw [List.length_reverse, List.length_drop, byt_length]; exact m2
        · rw [List.length_reverse, List.length_drop]; exact m3
        · rw [take_reverse_drop _ _ (by rw [List.length_drop, byt_length]; exact m2), take_reverse_drop _ _ (by rw [List.length_drop]; exact m3)]
          rw [List.drop_drop, List.drop_drop, List.length_drop, List.length_drop, byt_length]
          rw [show p + (t.size - p - m) = t.size - m by omega, show p + ((byt (applyB t [e])).length - p - m) = (byt (applyB t [e])).length - m by omega]
          congr 1
          have hdr : (byt (applyB t [e])).drop ((byt (applyB t [e])).length - m) = (sub t e.t.toNat t.size).drop (t.size - e.t.toNat - m) := by
            rw [hxl, hbx, ← List.append_assoc, List.drop_append]
            rw [List.drop_of_length_le (by rw [List.length_append, hl1, size_toList]; omega), List.nil_append, List.length_append, hl1, size_toList]
            congr 1
            omega
          rw [hdr, sub_eq, List.drop_take, List.drop_drop]
          rw [show e.t.toNat + (t.size - e.t.toNat - m) = t.size - m by omega]
          symm
          apply List.take_of_length_le
          rw [List.length_drop, size_toList]; omega
      have hsum : e.f.toNat + (t.size - e.t.toNat) ≤ p + r := by
        by_cases c1 : t.size - e.t.toNat ≤ t.size - p
        · by_cases c2 : t.size - e.t.toNat ≤ (byt (applyB t [e])).length - p
          · have := key _ (Nat.le_refl _) c1 c2; omega
          · have := key ((byt (applyB t [e])).length - p) (by omega) (by omega) (Nat.le_refl _); omega
        · by_cases c2 : t.size - p ≤ (byt (applyB t [e])).length - p
          · have := key (t.size - p) (by omega) (Nat.le_refl _) c2; omega
          · have := key ((byt (applyB t [e])).length - p) (by omega) (by omega) (Nat.le_refl _); omega
      rw [byt_length] at h2
      simp only
      rw [ByteArray.size_extract]
      simp only [growE] at hsz
      omega
end Go.Proofs.YtkdnacniligjjaaDoor

namespace Go.Proofs.YtkdnacniligjjaaDoor
set_option linter.unusedVariables false
set_option linter.unusedSimpArgs false

/-- where the New of each edit stands -/
def placedL : Int → List Ed → List (Int × Int)
  | _, [] => []
  | sh, e :: l => (e.f + sh, e.f + sh + e.s.size) :: placedL (sh + growE e) l
theorem placedL_length : ∀ (sh : Int) (l : List Ed), (placedL sh l).length = l.length
  | _, [] => rfl
  | sh, e :: l => by simp [placedL, placedL_length]
theorem placedL_get : ∀ (sh : Int) (l : List Ed) (k : Nat) (h : k < l.length) (h2 : k < (placedL sh l).length),
    (placedL sh l)[k] = (l[k].f + (sh + sumG (l.take k)), l[k].f + (sh + sumG (l.take k)) + l[k].s.size)
  | _, [], k, h, _ => by simp at h
  | sh, e :: l, 0, h, _ => by simp [placedL, sumG]
  | sh, e :: l, k + 1, h, h2 => by
    have := placedL_get (sh + growE e) l k (by simpa using h) (by rw [placedL_length]; simpa using h)
    simp only [placedL, List.getElem_cons_succ, List.take_succ_cons, sumG]
    rw [this]
    simp only [Prod.mk.injEq]
    omega
/-- the edits that make the old string of the new one -/
def invertL (t : ByteArray) : Int → List Ed → List Ed
  | _, [] => []
  | sh, e :: l => ⟨e.f + sh, e.f + sh + e.s.size, t.extract e.f.toNat e.t.toNat⟩ :: invertL t (sh + growE e) l
theorem invertL_length (t : ByteArray) : ∀ (sh : Int) (l : List Ed), (invertL t sh l).length = l.length
  | _, [] => rfl
  | sh, e :: l => by simp [invertL, invertL_length]
theorem invertL_get (t : ByteArray) : ∀ (sh : Int) (l : List Ed) (k : Nat) (h : k < l.length) (h2 : k < (invertL t sh l).length),
    (invertL t sh l)[k] = ⟨l[k].f + (sh + sumG (l.take k)), l[k].f + (sh + sumG (l.take k)) + l[k].s.size, t.extract l[k].f.toNat l[k].t.toNat⟩
  | _, [], k, h, _ => by simp at h
  | sh, e :: l, 0, h, _ => by simp [invertL, sumG]
  | sh, e :: l, k + 1, h, h2 => by
    have := invertL_get t (sh + growE e) l k (by simpa using h) (by rw [invertL_length]; simpa using h)
    simp only [invertL, List.getElem_cons_succ, List.take_succ_cons, sumG]
    rw [this]
    simp only [Ed.mk.injEq, and_true]
    omega
theorem take_set2 {α : Type} (xs : List α) (j : Nat) (u v : α) (h : j + 2 ≤ xs.length) : ((xs.set j u).set (j + 1) v).take (j + 2) = xs.take j ++ [u, v] := by
  apply List.ext_getElem?
  intro i
  by_cases hi : i < j
  · simp [List.getElem?_take, List.getElem?_append, List.getElem?_set, hi, show i < j + 2 by omega, show ¬ j + 1 = i by omega, show ¬ j = i by omega, show i < xs.length by omega, show min j xs.length = j by omega]
  · by_cases h1 : i = j
    · subst h1
      simp [List.getElem?_take, List.getElem?_append, List.getElem?_set, show min i xs.length = i by omega, show i < xs.length by omega]
    · by_cases h2 : i = j + 1
      · subst h2
        simp [List.getElem?_take, List.getElem?_append, List.getElem?_set, show min j xs.length = j by omega, show j + 1 < xs.length by omega]
      · have e1 : i - j = (i - j - 2) + 2 := by omega
        simp only [List.getElem?_take, List.getElem?_append, List.length_take, show min j xs.length = j by omega, show ¬ i < j + 2 by omega, hi, if_false]
        rw [e1]; simp
theorem take_set3 {α : Type} (xs : List α) (j : Nat) (u v x : α) (h : j + 3 ≤ xs.length) : (((xs.set j u).set (j + 1) v).set (j + 2) x).take (j + 3) = xs.take j ++ [u, v, x] := by
  have h1 := take_set2 xs j u v (by omega)
  have h2 : (((xs.set j u).set (j + 1) v).set (j + 2) x).take (j + 3) = ((xs.set j u).set (j + 1) v).take (j + 2) ++ [x] := by
    rw [List.take_add_one, List.take_set_of_le (by omega)]
    simp [List.getElem?_set, show j + 2 < xs.length by omega]
  rw [h2, h1]; simp
end Go.Proofs.YtkdnacniligjjaaDoor
