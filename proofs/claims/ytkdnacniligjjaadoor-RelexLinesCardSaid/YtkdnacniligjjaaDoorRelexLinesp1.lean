/-
  relex: Line counts the bytes of the lines that an edit meets (plain mathematics).
-/
import Derived.Test.YtkdnacniligjjaaDoorRelexCommonsp29
import Derived.Test.YtkdnacniligjjaaDoorRelexTokensp4
namespace Go.Proofs.YtkdnacniligjjaaDoor
set_option linter.unusedVariables false
set_option linter.unusedSimpArgs false

/-- how many of the first numbers g holds of -/
def cntB (g : Nat → Bool) : Nat → Nat
  | 0 => 0
  | n + 1 => cntB g n + if g n = true then 1 else 0
theorem cntB_congr {g h : Nat → Bool} : ∀ {n : Nat}, (∀ x, x < n → g x = h x) → cntB g n = cntB h n
  | 0, _ => rfl
  | n + 1, hx => by
    simp only [cntB]
    rw [cntB_congr (fun x hn => hx x (by omega)), hx n (by omega)]
theorem cntB_le (g : Nat → Bool) : ∀ n, cntB g n ≤ n
  | 0 => Nat.le_refl _
  | n + 1 => by
    have := cntB_le g n
    simp only [cntB]
    split <;> omega
theorem cntB_none {g : Nat → Bool} : ∀ {n : Nat}, (∀ x, x < n → g x = false) → cntB g n = 0
  | 0, _ => rfl
  | n + 1, hx => by
    simp only [cntB]
    rw [cntB_none (fun x hn => hx x (by omega)), hx n (by omega)]
    rfl
theorem cntB_more {g g' : Nat → Bool} {M T : Nat} (hMT : M ≤ T) (h : ∀ x, g' x = (g x || (decide (M ≤ x) && decide (x < T)))) (hno : ∀ x, M ≤ x → x < T → g x = false) : ∀ n, cntB g' n = cntB g n + (min n T - min n M)
  | 0 => by simp [cntB]
  | n + 1 => by
    have ih := cntB_more hMT h hno n
    simp only [cntB]
    rw [ih]
    by_cases h1 : M ≤ n ∧ n < T
    · have hg := hno n h1.1 h1.2
      have hg' : g' n = true := by rw [h, hg]; simp [h1.1, h1.2]
      rw [hg, hg']
      simp only [if_true, Bool.false_eq_true, if_false]
      omega
    · have hg' : g' n = g n := by
        rw [h]
        by_cases a : M ≤ n
        · have b : ¬ n < T := fun b => h1 ⟨a, b⟩
          simp [b]
        · simp [a]
      rw [hg']
      omega
theorem lnF_mono {y : ByteArray} {a b : Nat} (hab : a ≤ b) (hb : b ≤ y.size) : lnF y a ≤ lnF y b := by
  obtain ⟨_, h1, h2⟩ := lnF_spec (s := y) (f := a) (by omega)
  rcases h2 with h | ⟨q, h, h3⟩
  · omega
  · have := lnF_max hb (show q < b by omega) h3
    omega
theorem lnT_mono {y : ByteArray} {a b : Nat} (hab : a ≤ b) (hb : b ≤ y.size) : lnT y a ≤ lnT y b := by
  obtain ⟨h1, h2, h3⟩ := lnT_spec hb
  obtain ⟨_, h5, _⟩ := lnT_spec (s := y) (t := a) (by omega)
  rcases h3 with h | ⟨q, h, h4, h6⟩
  · omega
  · have := lnT_min (s := y) (t := a) (show a ≤ q by omega) h6
    omega
def covE (y : ByteArray) (l : List Ed) (x : Nat) : Bool := l.any fun e => decide (lnF y e.f.toNat ≤ x) && decide (x < lnT y e.t.toNat)
def covP (y : ByteArray) (l : List (Int × Int)) (x : Nat) : Bool := l.any fun p => decide (lnF y p.1.toNat ≤ x) && decide (x < lnT y p.2.toNat)
theorem cov_inv (t y : ByteArray) (x : Nat) : ∀ (sh : Int) (l : List Ed), covE y (invertL t sh l) x = covP y (placedL sh l) x
  | _, [] => rfl
  | sh, e :: l => by
    have := cov_inv t y x (sh + growE e) l
    unfold covE covP at this ⊢
    simp only [invertL, placedL, List.any_cons]
    rw [this]
theorem line_fold (y : ByteArray) : ∀ (l : List Ed) (last : Int) (c d : Int) (g : Nat → Bool) (pa pb : Nat), rising (y.size : Nat) last l = true → (pb : Int) ≤ last → pa ≤ pb → pb ≤ y.size → c = cntB g y.size → (∀ x : Nat, g x = true → (x : Int) < d) → (∀ x : Nat, lnF y pa ≤ x → (x : Int) < d → g x = true) → d ≤ (lnT y pb : Nat) → 0 ≤ d →
    (l.foldl (lineStep y) (c, d)).1 = cntB (fun x => g x || covE y l x) y.size
  | [], _, c, d, g, _, _, _, _, _, _, hc, _, _, _, _ => by
    simp only [List.foldl_nil]
    rw [hc]
    congr 1
    exact cntB_congr (fun x _ => by simp [covE])
  | e :: l, last, c, d, g, pa, pb, hr, h1, h2, h3, hc, hg1, hg2, hd, hd0 => by
    rw [rising_cons] at hr
    obtain ⟨r1, r2, r3, r4, r5⟩ := hr
    obtain ⟨f, t, s⟩ := e
    simp only at r1 r2 r3 r4 r5
    obtain ⟨f, rfl⟩ : ∃ k : Nat, f = (k : Int) := ⟨f.toNat, by omega⟩
    obtain ⟨t, rfl⟩ : ∃ k : Nat, t = (k : Int) := ⟨t.toNat, by omega⟩
    have a1 := lnF_mono (y := y) (show pa ≤ f by omega) (by omega)
    have a2 := lnT_mono (y := y) (show pb ≤ t by omega) (by omega)
    have a3 := (lnF_spec (s := y) (f := f) (by omega)).2.1
    have a4 := lnT_spec (s := y) (t := t) (by omega)
    obtain ⟨D, rfl⟩ : ∃ k : Nat, d = (k : Int) := ⟨d.toNat, by omega⟩
    have hstep : lineStep y (c, (D : Int)) ⟨(f : Int), (t : Int), s⟩ = (c + (((lnT y t : Nat) : Int) - max ((lnF y f : Nat) : Int) (D : Int)), ((lnT y t : Nat) : Int)) := rfl
    rw [List.foldl_cons, hstep]
    have hcov : ∀ x, covE y (⟨(f : Int), (t : Int), s⟩ :: l) x = ((decide (lnF y f ≤ x) && decide (x < lnT y t)) || covE y l x) := fun x => by
      unfold covE
      simp only [List.any_cons, Int.toNat_natCast]
    have hmore := cntB_more (g := g) (g' := fun x => g x || (decide (lnF y f ≤ x) && decide (x < lnT y t))) (M := max (lnF y f) D) (T := lnT y t) (by omega) (fun x => by
      by_cases hx : lnF y f ≤ x
      · by_cases hD : D ≤ x
        · rw [show decide (max (lnF y f) D ≤ x) = decide (lnF y f ≤ x) by simp [hx, hD, Nat.max_le]]
        · have := hg2 x (by omega) (by omega)
          simp [this]
      · rw [show decide (max (lnF y f) D ≤ x) = decide (lnF y f ≤ x) by simp [hx, Nat.max_le]]) (fun x hx1 hx2 => by
      cases hgx : g x
      · rfl
      · have := hg1 x hgx
        omega) y.size
    rw [line_fold y l t _ _ (fun x => g x || (decide (lnF y f ≤ x) && decide (x < lnT y t))) f t r5 (by omega) (by omega) (by omega) (by rw [hmore, hc]; omega) (fun x hx => by
      simp only [Bool.or_eq_true, Bool.and_eq_true, decide_eq_true_eq] at hx
      rcases hx with hx | hx
      · have := hg1 x hx
        omega
      · omega) (fun x hx1 hx2 => by
      simp only [Bool.or_eq_true, Bool.and_eq_true, decide_eq_true_eq]
      exact .inr ⟨hx1, by omega⟩) (Int.le_refl _) (by omega)]
    congr 1
    exact cntB_congr (fun x _ => by rw [hcov x, Bool.or_assoc])
theorem line_count (s : ByteArray) (es : List Ed) (h : checkE s.size es = 0) : (lineF (applyB s es) (invertL s 0 es)).1 = (cntB (covP (applyB s es) (placedL 0 es)) (applyB s es).size : Nat) := by
  have hr := (checkE_ok (back_all s es h).1).2.2.1
  unfold lineF
  rw [line_fold (applyB s es) (invertL s 0 es) 0 0 0 (fun _ => false) 0 0 hr (Int.le_refl _) (Nat.le_refl _) (Nat.zero_le _) (by rw [cntB_none (fun _ _ => rfl)]; rfl) (fun x hx => by cases hx) (fun x _ hx => by omega) (by omega) (Int.le_refl _)]
  congr 1
  exact cntB_congr (fun x _ => by rw [Bool.false_or, cov_inv])
end Go.Proofs.YtkdnacniligjjaaDoor
