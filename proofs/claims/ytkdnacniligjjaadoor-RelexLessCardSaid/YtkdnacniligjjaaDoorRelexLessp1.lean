/-
  relex: an edit in a line changes no tokens of the lines before it and behind it (plain mathematics).
-/
import Derived.Test.YtkdnacniligjjaaDoorRelexCommonsp14
import Derived.Test.YtkdnacniligjjaaDoorRelexCommonsp27
namespace Go.Proofs.YtkdnacniligjjaaDoor
set_option linter.unusedVariables false
set_option linter.unusedSimpArgs false

theorem tpre_common : ∀ (p a b : List Tok), p.length ≤ tpre (p ++ a) (p ++ b)
  | [], a, b => Nat.zero_le _
  | x :: p, a, b => by
    have := tpre_common p a b
    simp only [List.cons_append, tpre, if_true, List.length_cons]
    omega
theorem tpre_len : ∀ (a b : List Tok), tpre a b ≤ a.length ∧ tpre a b ≤ b.length
  | [], b => by simp [tpre]
  | x :: a, [] => by simp [tpre]
  | x :: a, y :: b => by
    have := tpre_len a b
    simp only [tpre]
    split
    · simp only [List.length_cons]; omega
    · exact ⟨Nat.zero_le _, Nat.zero_le _⟩
theorem com_bounds (a b : List Tok) : comF a b + comT a b ≤ a.length ∧ comF a b + comT a b ≤ b.length := by
  have h1 := tpre_len a b
  have h2 := tpre_len (a.drop (tpre a b)).reverse (b.drop (tpre a b)).reverse
  simp only [List.length_reverse, List.length_drop] at h2
  unfold comF comT
  omega
theorem com_least (I A B C : List Tok) : I.length ≤ comF (I ++ A ++ C) (I ++ B ++ C) ∧ min (I ++ A ++ C).length (I.length + C.length) ≤ comF (I ++ A ++ C) (I ++ B ++ C) + comT (I ++ A ++ C) (I ++ B ++ C) := by
  have h1 : I.length ≤ tpre (I ++ A ++ C) (I ++ B ++ C) := by
    rw [List.append_assoc, List.append_assoc]
    exact tpre_common I _ _
  have h2 := tpre_len (I ++ A ++ C) (I ++ B ++ C)
  unfold comF comT
  obtain ⟨F, hF⟩ : ∃ F, F = tpre (I ++ A ++ C) (I ++ B ++ C) := ⟨_, rfl⟩
  rw [← hF] at h1 h2 ⊢
  refine ⟨h1, ?_⟩
  have key : ∀ k, k ≤ C.length → k ≤ (I ++ A ++ C).length - F → k ≤ (I ++ B ++ C).length - F → k ≤ tpre ((I ++ A ++ C).drop F).reverse ((I ++ B ++ C).drop F).reverse := by
    intro k k1 k2 k3
    have e : ∀ P : List Tok, k ≤ (P ++ C).length - F → F ≤ (P ++ C).length → ∃ Q, ((P ++ C).drop F).reverse = (C.drop (C.length - k)).reverse ++ Q := by
      intro P hk hF
      have s1 : (P ++ C).drop ((P ++ C).length - k) = C.drop (C.length - k) := by
        rw [List.length_append, show P.length + C.length - k = P.length + (C.length - k) by omega, List.drop_append]
        simp
      refine ⟨(((P ++ C).drop F).take ((P ++ C).length - k - F)).reverse, ?_⟩
      rw [← List.reverse_append, ← s1]
      congr 1
      have s2 : (P ++ C).drop ((P ++ C).length - k) = ((P ++ C).drop F).drop ((P ++ C).length - k - F) := by
        rw [List.drop_drop]
        congr 1; omega
      rw [s2, List.take_append_drop]
    obtain ⟨Q1, e1⟩ := e (I ++ A) k2 h2.1
    obtain ⟨Q2, e2⟩ := e (I ++ B) k3 h2.2
    rw [e1, e2]
    have := tpre_common (C.drop (C.length - k)).reverse Q1 Q2
    rw [List.length_reverse, List.length_drop] at this
    omega
  simp only [List.length_append] at key h2 ⊢
  have := key (min C.length (min (I.length + A.length + C.length - F) (I.length + B.length + C.length - F))) (by omega) (by omega) (by omega)
  omega

/-- the tokens of the lines before and behind -/
theorem less_parts (u v : List UInt8) : ∃ (I C : List Tok), (lx (u ++ [10])).length = I.length + 1 ∧ (lx ([10] ++ v)).length = C.length + 1 ∧ ∀ m, ∃ A, lx (u ++ [10] ++ m ++ ([10] ++ v)) = I ++ A ++ C := by
  obtain ⟨init, z, hz1, hz2, hz3, hz4⟩ := lx_fed u
  have hbl : blankL (v.take (runL blankB v)) := run_all v
  have hY : runL blankB (v.drop (runL blankB v)) = 0 := by
    cases hd : v.drop (runL blankB v) with
    | nil => rfl
    | cons b l =>
      have := run_end (p := blankB) v b (by rw [hd]; rfl)
      simp [runL, this]
  have hv := List.take_append_drop (runL blankB v) v
  generalize v.take (runL blankB v) = bl at hbl hv
  generalize v.drop (runL blankB v) = Y at hY hv
  subst hv
  refine ⟨init, lx Y, ?_, ?_, fun m => ?_⟩
  · have := hz4 []
    rw [List.append_nil, List.append_nil] at this
    rw [this, lx_blank1 hz2 hz3]
    simp
  · have h1 := lx_right [] bl Y hbl hY
    rw [List.nil_append] at h1
    rw [← List.append_assoc, h1, lx_blank1 (z := [10] ++ bl) (by simp) (by
      intro x hx
      rcases List.mem_append.1 hx with hx | hx
      · have : x = 10 := by simpa using hx
        subst this; rfl
      · exact hbl x hx)]
    simp [Nat.add_comm]
  · refine ⟨lx (z ++ (m ++ [10] ++ bl)), ?_⟩
    have h1 := lx_right (u ++ [10] ++ m) bl Y hbl hY
    have h2 := hz4 (m ++ [10] ++ bl)
    rw [← h2]
    rw [show u ++ [10] ++ m ++ ([10] ++ (bl ++ Y)) = u ++ [10] ++ m ++ [10] ++ bl ++ Y by simp [List.append_assoc], h1]
    simp [List.append_assoc]
/-- the string after one edit in its middle -/
theorem edited_one (a m b N : ByteArray) (f t : Nat) (hft : f ≤ t) (ht : t ≤ m.size) :
    byt (applyB (a ++ m ++ b) [⟨((f + a.size : Nat) : Int), ((t + a.size : Nat) : Int), N⟩]) = byt a ++ (((byt m).take f) ++ byt N ++ (byt m).drop t) ++ byt b := by
  unfold applyB
  rw [byt_mkB]
  simp only [editedL, Int.toNat_natCast]
  have hsz : (a ++ m ++ b).size = a.size + m.size + b.size := by rw [ByteArray.size_append, ByteArray.size_append]
  have hby : byt (a ++ m ++ b) = byt a ++ byt m ++ byt b := by rw [byt_append, byt_append]
  have la := byt_length a
  have lm := byt_length m
  have lb := byt_length b
  rw [sub_tail]
  have e1 : sub (a ++ m ++ b) 0 (f + a.size) = byt a ++ (byt m).take f := by
    rw [sub_eq]
    have : (a ++ m ++ b).data.toList = byt a ++ byt m ++ byt b := hby
    rw [this, List.drop_zero, Nat.sub_zero, List.take_append_of_le_length (by rw [List.length_append]; omega), show f + a.size = (byt a).length + f by omega, List.take_append]
    simp
    exact List.take_of_length_le (by omega)
  have e2 : (byt (a ++ m ++ b)).drop (t + a.size) = (byt m).drop t ++ byt b := by
    rw [hby, List.drop_append_of_le_length (by rw [List.length_append]; omega), show t + a.size = (byt a).length + t by omega, List.drop_append]
    simp
  rw [e1, e2]
  have e3 : N.data.toList = byt N := rfl
  rw [e3]
  simp [List.append_assoc]
theorem less_all (P m Q N a b : ByteArray) (f t : Nat) (ha : a = P ++ { data := #[10] }) (hb : b = { data := #[10] } ++ Q) (hft : f ≤ t) (ht : t ≤ m.size) (hP : P.size ≤ 4000) (hm : m.size ≤ 4000) (hQ : Q.size ≤ 4000) (hN : N.size ≤ 2000) :
    (a ++ m ++ b).size ≤ 20000 ∧ checkE (a ++ m ++ b).size [⟨((f + a.size : Nat) : Int), ((t + a.size : Nat) : Int), N⟩] = 0 ∧ (applyB (a ++ m ++ b) [⟨((f + a.size : Nat) : Int), ((t + a.size : Nat) : Int), N⟩]).size ≤ 20000 ∧ a.size ≤ 4001 ∧ b.size ≤ 4001 ∧
    ∃ X Y : Nat, (lexL a).length = X + 1 ∧ (lexL b).length = Y + 1 ∧ X ≤ comF (lexL (a ++ m ++ b)) (lexL (applyB (a ++ m ++ b) [⟨((f + a.size : Nat) : Int), ((t + a.size : Nat) : Int), N⟩])) ∧
      min (lexL (a ++ m ++ b)).length (X + Y) ≤ comF (lexL (a ++ m ++ b)) (lexL (applyB (a ++ m ++ b) [⟨((f + a.size : Nat) : Int), ((t + a.size : Nat) : Int), N⟩])) + comT (lexL (a ++ m ++ b)) (lexL (applyB (a ++ m ++ b) [⟨((f + a.size : Nat) : Int), ((t + a.size : Nat) : Int), N⟩])) := by
  have sa : a.size = P.size + 1 := by rw [ha, ByteArray.size_append]; rfl
  have sb : b.size = 1 + Q.size := by rw [hb, ByteArray.size_append]; rfl
  have sz : (a ++ m ++ b).size = a.size + m.size + b.size := by rw [ByteArray.size_append, ByteArray.size_append]
  have hr : rising ((a ++ m ++ b).size : Nat) 0 [⟨((f + a.size : Nat) : Int), ((t + a.size : Nat) : Int), N⟩] = true := by
    rw [rising_cons]
    exact ⟨by simp only; omega, by simp only; omega, by simp only; omega, by simp only; omega, rfl⟩
  have hsum : sumG [⟨((f + a.size : Nat) : Int), ((t + a.size : Nat) : Int), N⟩] = (N.size : Int) - ((t : Int) - f) := by
    simp only [sumG, growE]
    omega
  have hck := checkE_of (n := ((a ++ m ++ b).size : Nat)) (l := [⟨((f + a.size : Nat) : Int), ((t + a.size : Nat) : Int), N⟩]) (by omega) (by simp) hr (by rw [hsum]; omega)
  have hys := applyB_size hr
  rw [hsum] at hys
  obtain ⟨I, C, h1, h2, h3⟩ := less_parts (byt P) (byt Q)
  have nl : byt ({ data := #[10] } : ByteArray) = [10] := rfl
  have ba : byt a = byt P ++ [10] := by rw [ha, byt_append, nl]
  have bb : byt b = [10] ++ byt Q := by rw [hb, byt_append, nl]
  have e1 : lexL (a ++ m ++ b) = lx (byt P ++ [10] ++ byt m ++ ([10] ++ byt Q)) := by rw [← lx_byt, byt_append, byt_append, ba, bb]
  have e2 := edited_one a m b N f t hft ht
  have e3 : lexL (applyB (a ++ m ++ b) [⟨((f + a.size : Nat) : Int), ((t + a.size : Nat) : Int), N⟩]) = lx (byt P ++ [10] ++ ((byt m).take f ++ byt N ++ (byt m).drop t) ++ ([10] ++ byt Q)) := by rw [← lx_byt, e2, ba, bb]
  obtain ⟨A1, g1⟩ := h3 (byt m)
  obtain ⟨A2, g2⟩ := h3 ((byt m).take f ++ byt N ++ (byt m).drop t)
  have hc := com_least I A1 A2 C
  refine ⟨by omega, hck, by omega, by omega, by omega, I.length, C.length, ?_, ?_, ?_⟩
  · rw [← lx_byt, ba, h1]
  · rw [← lx_byt, bb, h2]
  · rw [e1, e3, g1, g2]
    exact hc
end Go.Proofs.YtkdnacniligjjaaDoor
