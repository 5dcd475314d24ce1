/-
  Plain mathematics of Diff: it makes the new string, and no other single edit that does is shorter.
-/
import Derived.Test.YtmdgclcakogggaaMathC
import Derived.Test.YtmdgclcakogggaaKeepMath
namespace Go.Proofs.Ytmdgclcakogggaa
set_option linter.unusedVariables false
set_option linter.unusedSimpArgs false

theorem cpre_take : ∀ (x y : List UInt8), x.take (cpre x y) = y.take (cpre x y)
  | [], y => by simp [cpre]
  | a :: x, [] => by simp [cpre]
  | a :: x, b :: y => by
    simp only [cpre]
    by_cases h : a = b
    · rw [if_pos h, List.take_succ_cons, List.take_succ_cons, cpre_take x y, h]
    · rw [if_neg h]; simp
theorem cpre_ge : ∀ (k : Nat) (x y : List UInt8), k ≤ x.length → k ≤ y.length → x.take k = y.take k → k ≤ cpre x y
  | 0, _, _, _, _, _ => Nat.zero_le _
  | k + 1, [], y, h, _, _ => by simp at h
  | k + 1, a :: x, [], _, h, _ => by simp at h
  | k + 1, a :: x, b :: y, h1, h2, h3 => by
    rw [List.take_succ_cons, List.take_succ_cons] at h3
    injection h3 with h4 h5
    simp only [cpre]
    rw [if_pos h4]
    have := cpre_ge k x y (by simpa using h1) (by simpa using h2) h5
    omega
theorem take_reverse_drop (u : List UInt8) (r : Nat) (h : r ≤ u.length) : u.reverse.take r = (u.drop (u.length - r)).reverse := by
  rw [List.take_reverse]

/-- p, r: common beginning, and common end behind it -/
theorem diff_parts (x y : List UInt8) : ∃ p r : Nat, p = cpre x y ∧ r = cpre (x.drop p).reverse (y.drop p).reverse ∧ p + r ≤ x.length ∧ p + r ≤ y.length ∧ x.take p = y.take p ∧ x.drop (x.length - r) = y.drop (y.length - r) := by
  refine ⟨_, _, rfl, rfl, ?_⟩
  have hp := cpre_le x y
  have hr := cpre_le (x.drop (cpre x y)).reverse (y.drop (cpre x y)).reverse
  rw [List.length_reverse, List.length_reverse, List.length_drop, List.length_drop] at hr
  have ht := cpre_take (x.drop (cpre x y)).reverse (y.drop (cpre x y)).reverse
  generalize cpre (x.drop (cpre x y)).reverse (y.drop (cpre x y)).reverse = r at *
  refine ⟨by omega, by omega, cpre_take x y, ?_⟩
  rw [take_reverse_drop _ _ (by rw [List.length_drop]; omega), take_reverse_drop _ _ (by rw [List.length_drop]; omega)] at ht
  have ht2 := List.reverse_inj.1 ht
  rw [List.drop_drop, List.drop_drop, List.length_drop, List.length_drop] at ht2
  rw [show cpre x y + (x.length - cpre x y - r) = x.length - r by omega, show cpre x y + (y.length - cpre x y - r) = y.length - r by omega] at ht2
  exact ht2

theorem byt_mkB (l : List UInt8) : byt (mkB l) = l := mkB_toList l
theorem byt_inj {a b : ByteArray} (h : byt a = byt b) : a = b := by
  have := congrArg mkB h
  unfold byt at this
  rwa [mkB_of, mkB_of] at this

theorem diff_makes (a b : ByteArray) (hb : b.size ≤ 20000) (ha : a.size ≤ 20000) : checkE a.size (diffL a b) = 0 ∧ applyB a (diffL a b) = b := by
  by_cases h : a = b
  · subst h
    have e : diffL a a = [] := by unfold diffL; simp
    rw [e]
    refine ⟨checkE_of (by omega) (by simp) rfl (by simp [sumG]; omega), ?_⟩
    unfold applyB
    simp only [editedL]
    apply byt_inj
    rw [byt_mkB, sub_eq]
    simp [byt]
    exact List.take_of_length_le (by rw [size_toList]; omega)
  · obtain ⟨p, r, hp, hr, h1, h2, h3, h4⟩ := diff_parts (byt a) (byt b)
    have e : diffL a b = [⟨p, (a.size : Int) - r, b.extract p (b.size - r)⟩] := by
      unfold diffL; rw [if_neg h, ← hp, ← hr]
    rw [byt_length] at h1 h2 h4
    rw [byt_length] at h4
    rw [e]
    have hsz : (b.extract p (b.size - r)).size = b.size - r - p := by rw [ByteArray.size_extract]; omega
    refine ⟨checkE_of (by omega) (by simp) ?_ ?_, ?_⟩
    · rw [rising_cons]; exact ⟨by simp, by simp, by simp; omega, by simp; omega, rfl⟩
    · simp only [sumG, growE, hsz]; omega
    · unfold applyB
      simp only [editedL]
      apply byt_inj
      rw [byt_mkB, Int.toNat_natCast, show ((a.size : Int) - r).toNat = a.size - r by omega]
      have s1 : sub a 0 p = (byt b).take p := by rw [← h3, sub_eq]; simp [byt]
      have s2 : sub a (a.size - r) a.size = (byt b).drop (b.size - r) := by
        rw [← h4, sub_eq]
        apply List.take_of_length_le
        simp [size_toList]
      have s3 : (b.extract p (b.size - r)).data.toList = ((byt b).take (b.size - r)).drop p := by
        show sub b p (b.size - r) = _
        rw [sub_eq, List.drop_take]; rfl
      rw [s1, s2, s3]
      have s4 : (byt b).take p = ((byt b).take (b.size - r)).take p := by rw [List.take_take, show min p (b.size - r) = p by omega]
      rw [s4, ← List.append_assoc, List.take_append_drop, List.take_append_drop]

theorem diff_least (t : ByteArray) (e : Ed) (h : checkE t.size [e] = 0) :
    (diffL t (applyB t [e]) = [] ↔ t = applyB t [e]) ∧ ∀ d, diffL t (applyB t [e]) = [d] → d.t - d.f + d.s.size ≤ e.t - e.f + e.s.size := by
  have hok := checkE_ok h
  have hr := hok.2.2.1
  rw [rising_cons] at hr
  have hsz : ((applyB t [e]).size : Int) = t.size + growE e := by rw [applyB_size hok.2.2.1]; simp [sumG]
  refine ⟨?_, ?_⟩
  · unfold diffL
    by_cases hx : t = applyB t [e]
    · rw [if_pos hx]; simp [← hx]
    · rw [if_neg hx]; simp [hx]
  · intro d hd
    by_cases hx : t = applyB t [e]
    · have : diffL t (applyB t [e]) = [] := by unfold diffL; rw [if_pos hx]
      rw [this] at hd; cases hd
    · obtain ⟨p, r, hp, hrr, h1, h2, h3, h4⟩ := diff_parts (byt t) (byt (applyB t [e]))
      have e1 : diffL t (applyB t [e]) = [⟨p, (t.size : Int) - r, (applyB t [e]).extract p ((applyB t [e]).size - r)⟩] := by
        unfold diffL; rw [if_neg hx, ← hp, ← hrr]
      rw [e1] at hd
      injection hd with hd _
      subst hd
      have hbx : byt (applyB t [e]) = sub t 0 e.f.toNat ++ (e.s.data.toList ++ sub t e.t.toNat t.size) := by
        unfold applyB; rw [byt_mkB]; rfl
      have hl1 : (sub t 0 e.f.toNat).length = e.f.toNat := by rw [sub_length]; omega
      have hl2 : (sub t e.t.toNat t.size).length = t.size - e.t.toNat := by rw [sub_length]; omega
      have hxl : (byt (applyB t [e])).length = e.f.toNat + (e.s.size + (t.size - e.t.toNat)) := by
        rw [hbx, List.length_append, List.length_append, hl1, hl2, size_toList]
      rw [byt_length] at h1
      have hF : e.f.toNat ≤ p := by
        rw [hp]
        apply cpre_ge
        · rw [byt_length]; omega
        · rw [hxl]; omega
        · rw [hbx, List.take_append_of_le_length (by rw [hl1]; omega), List.take_of_length_le (l := sub t 0 e.f.toNat) (by rw [hl1]; omega), sub_eq]
          simp [byt]
      -- the common end
      have key : ∀ m : Nat, m ≤ t.size - e.t.toNat → m ≤ t.size - p → m ≤ (byt (applyB t [e])).length - p → m ≤ r := by
        intro m m1 m2 m3
        rw [hrr]
        apply cpre_ge
        · rw [List.length_reverse, List.length_drop, byt_length]; exact m2
        · rw [List.length_reverse, List.length_drop]; exact m3
        · rw [take_reverse_drop _ _ (by rw [List.length_drop, byt_length]; exact m2), take_reverse_drop _ _ (by rw [List.length_drop]; exact m3)]
          rw [List.drop_drop, List.drop_drop, List.length_drop, List.length_drop, byt_length]
          rw [show p + (t.size - p - m) = t.size - m by omega, show p + ((byt (applyB t [e])).length - p - m) = (byt (applyB t [e])).length - m by omega]
          congr 1
          have hdr : (byt (applyB t [e])).drop ((byt (applyB t [e])).length - m) = (sub t e.t.toNat t.size).drop (t.size - e.t.toNat - m) := by
            rw [hxl, hbx, ← List.append_assoc, List.drop_append]
            rw [List.drop_of_length_le (by rw [List.length_append, hl1, size_toList]; omega), List.nil_append, List.length_append, hl1, size_toList]
            congr 1
            omega
          rw [hdr, sub_eq, List.drop_take, List.drop_drop]
          rw [show e.t.toNat + (t.size - e.t.toNat - m) = t.size - m by omega]
          symm
          apply List.take_of_length_le
          rw [List.length_drop, size_toList]; omega
      have hsum : e.f.toNat + (t.size - e.t.toNat) ≤ p + r := by
        by_cases c1 : t.size - e.t.toNat ≤ t.size - p
        · by_cases c2 : t.size - e.t.toNat ≤ (byt (applyB t [e])).length - p
          · have := key _ (Nat.le_refl _) c1 c2; omega
          · have := key ((byt (applyB t [e])).length - p) (by omega) (by omega) (Nat.le_refl _); omega
        · by_cases c2 : t.size - p ≤ (byt (applyB t [e])).length - p
          · have := key (t.size - p) (by omega) (Nat.le_refl _) c2; omega
          · have := key ((byt (applyB t [e])).length - p) (by omega) (by omega) (Nat.le_refl _); omega
      rw [byt_length] at h2
      simp only
      rw [ByteArray.size_extract]
      simp only [growE] at hsz
      omega
end Go.Proofs.Ytmdgclcakogggaa
