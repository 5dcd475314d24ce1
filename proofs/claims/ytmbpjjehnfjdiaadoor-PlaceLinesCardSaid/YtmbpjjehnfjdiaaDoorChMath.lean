/-
  Plain mathematics of characters: how many bytes and how many columns one has; chains of characters; boundaries.
-/
import Derived.Test.YtmbpjjehnfjdiaaDoorFeedMath
import Derived.Lib.DecodeN
import Derived.Lib.RuneCountTail
namespace Go.Proofs.YtmbpjjehnfjdiaaDoor
set_option linter.unusedVariables false
set_option linter.unusedSimpArgs false
open Go.Lib (decodeN decode_at)

def bt (s : ByteArray) (i : Nat) : Nat := (s.get! i).toNat
/-- how many bytes the character at i has -/
def dn (s : ByteArray) (i : Nat) : Nat := (Utf8.decode s i).2
/-- how many columns -/
def dw (s : ByteArray) (i : Nat) : Nat := if 65536 ≤ (Utf8.decode s i).1 then 2 else 1
theorem dec_eq (s : ByteArray) (i : Nat) : Utf8.decode s i = decodeN (s.size - i) (bt s i) (bt s (i + 1)) (bt s (i + 2)) (bt s (i + 3)) := decode_at s i

theorem decN_range (n b0 b1 b2 b3 : Nat) : 1 ≤ (decodeN n b0 b1 b2 b3).2 ∧ (decodeN n b0 b1 b2 b3).2 ≤ 4 ∧ ((decodeN n b0 b1 b2 b3).2 ≤ n ∨ (decodeN n b0 b1 b2 b3).2 = 1) := by
  unfold decodeN
  repeat' split
  all_goals (refine ⟨?_, ?_, ?_⟩ <;> dsimp only <;> omega)
theorem decN_cont (n b0 b1 b2 b3 : Nat) : (1 < (decodeN n b0 b1 b2 b3).2 → b1 / 64 = 2) ∧ (2 < (decodeN n b0 b1 b2 b3).2 → b2 / 64 = 2) ∧ (3 < (decodeN n b0 b1 b2 b3).2 → b3 / 64 = 2) ∧ (1 < (decodeN n b0 b1 b2 b3).2 → 192 ≤ b0) := by
  unfold decodeN
  repeat' split
  all_goals (refine ⟨fun h => ?_, fun h => ?_, fun h => ?_, fun h => ?_⟩ <;> dsimp only at h <;> omega)
theorem decN_low (n b0 b1 b2 b3 : Nat) (h : b0 < 192) : (decodeN n b0 b1 b2 b3).2 = 1 ∧ (decodeN n b0 b1 b2 b3).1 < 65536 := by
  unfold decodeN
  repeat' split
  all_goals (refine ⟨?_, ?_⟩ <;> dsimp only <;> omega)
theorem decN_cut (n m b0 b1 b2 b3 c1 c2 c3 : Nat) (h : m ≤ n) (h0 : 1 ≤ m) (h1 : 1 < m → c1 = b1) (h2 : 2 < m → c2 = b2) (h3 : 3 < m → c3 = b3) (hle : (decodeN n b0 b1 b2 b3).2 ≤ m) :
    decodeN m b0 c1 c2 c3 = decodeN n b0 b1 b2 b3 := by
  have key : ∀ k, (k < m → k < n) := fun k hk => by omega
  by_cases m1 : 1 < m
  · obtain rfl := h1 m1
    have n1 : 1 < n := by omega
    by_cases m2 : 2 < m
    · obtain rfl := h2 m2
      have n2 : 2 < n := by omega
      by_cases m3 : 3 < m
      · obtain rfl := h3 m3
        have n3 : 3 < n := by omega
        simp only [decodeN, m1, n1, m2, n2, m3, n3]
      · have m3' : ¬ 3 < m := m3
        revert hle
        simp only [decodeN, m1, n1, m2, n2, m3, false_and, and_false, if_false, true_and]
        repeat' split
        all_goals first | (intro _; rfl) | (intro hle; simp only at hle; omega)
    · revert hle
      simp only [decodeN, m1, n1, m2, false_and, and_false, if_false, true_and]
      repeat' split
      all_goals first | (intro _; rfl) | (intro hle; simp only at hle; omega)
  · revert hle
    simp only [decodeN, m1, false_and, and_false, if_false, true_and]
    repeat' split
    all_goals first | (intro _; rfl) | (intro hle; simp only at hle; omega)

theorem dn_pos (s : ByteArray) (i : Nat) : 1 ≤ dn s i := by unfold dn; rw [dec_eq]; exact (decN_range ..).1
theorem dn_le4 (s : ByteArray) (i : Nat) : dn s i ≤ 4 := by unfold dn; rw [dec_eq]; exact (decN_range ..).2.1
theorem dn_le (s : ByteArray) (i : Nat) (h : i < s.size) : i + dn s i ≤ s.size := by
  unfold dn; rw [dec_eq]
  have := (decN_range (s.size - i) (bt s i) (bt s (i + 1)) (bt s (i + 2)) (bt s (i + 3))).2.2
  omega
theorem dn_cont (s : ByteArray) (i k : Nat) (h0 : 0 < k) (h : k < dn s i) : bt s (i + k) / 64 = 2 := by
  have h4 := dn_le4 s i
  unfold dn at h h4
  rw [dec_eq] at h h4
  obtain ⟨c1, c2, c3, _⟩ := decN_cont (s.size - i) (bt s i) (bt s (i + 1)) (bt s (i + 2)) (bt s (i + 3))
  have : k = 1 ∨ k = 2 ∨ k = 3 := by omega
  rcases this with rfl | rfl | rfl
  · exact c1 h
  · exact c2 h
  · exact c3 h
theorem dn_lead (s : ByteArray) (i : Nat) (h : 1 < dn s i) : 192 ≤ bt s i := by
  unfold dn at h; rw [dec_eq] at h
  exact (decN_cont ..).2.2.2 h
theorem dn_low (s : ByteArray) (i : Nat) (h : bt s i < 192) : dn s i = 1 := by unfold dn; rw [dec_eq]; exact (decN_low _ _ _ _ _ h).1
theorem dw_low (s : ByteArray) (i : Nat) (h : bt s i < 192) : dw s i = 1 := by
  unfold dw; rw [dec_eq, if_neg]
  have := (decN_low (s.size - i) (bt s i) (bt s (i + 1)) (bt s (i + 2)) (bt s (i + 3)) h).2
  omega
theorem dw_pos (s : ByteArray) (i : Nat) : 1 ≤ dw s i := by unfold dw; split <;> omega
theorem dw_le (s : ByteArray) (i : Nat) : dw s i ≤ 2 := by unfold dw; split <;> omega

theorem getD_bt (s : ByteArray) (i : Nat) : (s.data.toList.getD i 0).toNat = bt s i := by rw [Go.Lib.getD_get!']; rfl
theorem bt_extract (s : ByteArray) (a b i : Nat) (h : a + i < b) : bt (s.extract a b) i = bt s (a + i) := by
  rw [← getD_bt, ← getD_bt]
  congr 1
  rw [show (s.extract a b).data.toList = sub s a b from rfl, sub_eq]
  simp only [List.getD, List.getElem?_take, List.getElem?_drop]
  rw [if_pos (by omega)]
theorem bt_eq (s : ByteArray) (i : Nat) (h : i < s.size) : bt s i = (s[i]'h).toNat := by
  unfold bt
  have : s.get! i = s[i]'h := by
    show s.data[i]! = _
    rw [getElem!_pos s.data i h]; rfl
  rw [this]

/-- the characters of a part are those of the whole, as far as they end in it -/
theorem dec_extract (s : ByteArray) (a b i : Nat) (hb : b ≤ s.size) (h1 : a + i < b) (h : a + i + dn s (a + i) ≤ b) : Utf8.decode (s.extract a b) i = Utf8.decode s (a + i) := by
  have hn := h
  unfold dn at hn
  rw [dec_eq] at hn
  have hsz : (s.extract a b).size = b - a := by rw [ByteArray.size_extract]; omega
  rw [dec_eq (s.extract a b), dec_eq s (a + i), hsz, bt_extract s a b i h1]
  refine decN_cut _ _ _ _ _ _ _ _ _ (by omega) (by omega) (fun h => ?_) (fun h => ?_) (fun h => ?_) (by omega)
  · rw [bt_extract s a b (i + 1) (by omega)]; rfl
  · rw [bt_extract s a b (i + 2) (by omega)]; rfl
  · rw [bt_extract s a b (i + 3) (by omega)]; rfl

/-- from a to j by whole characters, of so many columns -/
inductive Ch (s : ByteArray) : Nat → Nat → Nat → Prop
  | refl (a : Nat) : Ch s a a 0
  | cons {a j w : Nat} : a < s.size → Ch s (a + dn s a) j w → Ch s a j (dw s a + w)

theorem Ch.snoc {s : ByteArray} {a j w : Nat} (h : Ch s a j w) (hj : j < s.size) : Ch s a (j + dn s j) (w + dw s j) := by
  induction h with
  | refl a => have := Ch.cons hj (Ch.refl (a + dn s a)); rwa [Nat.add_comm (dw s a) 0] at this
  | cons ha _ ih => have := Ch.cons ha (ih hj); rwa [← Nat.add_assoc] at this
theorem Ch.trans {s : ByteArray} {a j k w v : Nat} (h : Ch s a j w) (h2 : Ch s j k v) : Ch s a k (w + v) := by
  induction h with
  | refl a => rwa [Nat.zero_add]
  | cons ha _ ih => rw [Nat.add_assoc]; exact Ch.cons ha (ih h2)
theorem Ch.le {s : ByteArray} {a j w : Nat} (h : Ch s a j w) : a ≤ j := by
  induction h with
  | refl a => exact Nat.le_refl _
  | cons ha _ ih => omega
theorem Ch.le_size {s : ByteArray} {a j w : Nat} (h : Ch s a j w) (ha : a ≤ s.size) : j ≤ s.size := by
  induction h with
  | refl a => exact ha
  | cons ha' _ ih => exact ih (dn_le s _ ha')
theorem Ch.next {s : ByteArray} {a j w : Nat} (h : Ch s a j w) (hlt : a < j) : a < s.size ∧ ∃ v, w = dw s a + v ∧ Ch s (a + dn s a) j v := by
  cases h with
  | refl => omega
  | cons ha h => exact ⟨ha, _, rfl, h⟩
theorem Ch.zero {s : ByteArray} {a w : Nat} (h : Ch s a a w) : w = 0 := by
  cases h with
  | refl => rfl
  | cons ha h => have := h.le; have := dn_pos s a; omega
theorem Ch.split {s : ByteArray} {a j w : Nat} (h : Ch s a j w) : ∀ {k v : Nat}, Ch s a k v → j ≤ k → ∃ u, Ch s j k u ∧ v = w + u := by
  induction h with
  | refl a => intro k v h2 _; exact ⟨v, h2, by omega⟩
  | @cons a j w ha h ih =>
    intro k v h2 hk
    have hle := h.le
    have hp := dn_pos s a
    obtain ⟨_, v', rfl, h3⟩ := h2.next (by omega)
    obtain ⟨u, hu, rfl⟩ := ih h3 hk
    exact ⟨u, hu, by omega⟩
theorem Ch.det {s : ByteArray} {a j w v : Nat} (h : Ch s a j w) (h2 : Ch s a j v) : w = v := by
  obtain ⟨u, hu, rfl⟩ := h.split h2 (Nat.le_refl _)
  rw [hu.zero]; omega
theorem Ch.pos {s : ByteArray} {a j w : Nat} (h : Ch s a j w) (hlt : a < j) : 0 < w := by
  obtain ⟨_, v, rfl, _⟩ := h.next hlt
  have := dw_pos s a
  omega
theorem Ch.width_le {s : ByteArray} {a j w : Nat} (h : Ch s a j w) : w ≤ 2 * (j - a) := by
  induction h with
  | refl a => omega
  | @cons a j w ha h ih => have := h.le; have := dn_pos s a; have := dw_le s a; omega
/-- none ends inside of a character -/
theorem Ch.inside {s : ByteArray} {a i w k v : Nat} (h : Ch s a i w) (h1 : i < k) (h2 : k < i + dn s i) (hk : Ch s a k v) : False := by
  obtain ⟨u, hu, _⟩ := h.split hk (by omega)
  obtain ⟨_, v', _, h3⟩ := hu.next h1
  have := h3.le
  omega
theorem Ch.cover {s : ByteArray} {a : Nat} : ∀ {k : Nat}, a ≤ k → k ≤ s.size → ∃ j w, Ch s a j w ∧ j ≤ k ∧ (j = k ∨ (j < s.size ∧ k < j + dn s j)) := by
  intro k hak hk
  induction k with
  | zero => exact ⟨0, 0, by have : a = 0 := by omega
                            subst this; exact Ch.refl 0, Nat.le_refl _, .inl rfl⟩
  | succ k ih =>
    by_cases h : a = k + 1
    · exact ⟨k + 1, 0, by rw [h]; exact Ch.refl _, Nat.le_refl _, .inl rfl⟩
    · obtain ⟨j, w, hj, hjk, hc⟩ := ih (by omega) (by omega)
      have hp := dn_pos s j
      by_cases h2 : k + 1 < j + dn s j
      · exact ⟨j, w, hj, by omega, .inr ⟨by omega, h2⟩⟩
      · have hjs : j < s.size := by omega
        refine ⟨j + dn s j, w + dw s j, hj.snoc hjs, by omega, .inl (by rcases hc with rfl | ⟨_, hc⟩ <;> omega)⟩
/-- a byte that goes on no character begins one -/
theorem Ch.at_lead {s : ByteArray} {a k : Nat} (hak : a ≤ k) (hk : k ≤ s.size) (h : k = s.size ∨ bt s k / 64 ≠ 2) : ∃ w, Ch s a k w := by
  obtain ⟨j, w, hj, hjk, hc⟩ := Ch.cover hak hk
  rcases hc with rfl | ⟨hjs, hc⟩
  · exact ⟨w, hj⟩
  · by_cases he : j = k
    · subst he; exact ⟨w, hj⟩
    · have h0 := dn_cont s j (k - j) (by omega) (by omega)
      rw [show j + (k - j) = k by omega] at h0
      have := dn_le s j hjs
      rcases h with h | h
      · omega
      · exact absurd h0 h
theorem Ch.to_extract {s : ByteArray} {a b : Nat} (hb : b ≤ s.size) {c W : Nat} (h : Ch s c b W) : a ≤ c → Ch (s.extract a b) (c - a) (b - a) W := by
  have hsz : (s.extract a b).size = min b s.size - a := by rw [ByteArray.size_extract]
  generalize hbe : b = b' at h
  induction h with
  | refl c => intro _; subst hbe; exact Ch.refl _
  | @cons c j w hc h ih =>
    intro hac
    subst hbe
    have hle := h.le
    have hp := dn_pos s c
    have hd := dec_extract s a b (c - a) hb (by omega) (by rw [Nat.add_sub_cancel' hac]; omega)
    rw [Nat.add_sub_cancel' hac] at hd
    have e1 : dn (s.extract a b) (c - a) = dn s c := by unfold dn; rw [hd]
    have e2 : dw (s.extract a b) (c - a) = dw s c := by unfold dw; rw [hd]
    have h3 := ih rfl (by omega)
    have : Ch (s.extract a b) (c - a) (b - a) (dw (s.extract a b) (c - a) + w) := Ch.cons (by omega) (by rw [e1, show c - a + dn s c = c + dn s c - a by omega]; exact h3)
    rwa [e2] at this
theorem Ch.of_extract {s : ByteArray} {a b : Nat} (hb : b ≤ s.size) {i j w : Nat} (h : Ch (s.extract a b) i j w) : ∀ {W : Nat}, Ch s (a + i) b W → Ch s (a + i) (a + j) w := by
  have hsz : (s.extract a b).size = min b s.size - a := by rw [ByteArray.size_extract]
  induction h with
  | refl i => intro W _; exact Ch.refl _
  | @cons i j w hi h ih =>
    intro W hW
    obtain ⟨hs, v, rfl, h2⟩ := hW.next (by omega)
    have hle := h2.le
    have hd := dec_extract s a b i hb (by omega) hle
    have e1 : dn (s.extract a b) i = dn s (a + i) := by unfold dn; rw [hd]
    have e2 : dw (s.extract a b) i = dw s (a + i) := by unfold dw; rw [hd]
    rw [e1, ← Nat.add_assoc] at ih
    rw [e2]
    exact Ch.cons hs (ih h2)
end Go.Proofs.YtmbpjjehnfjdiaaDoor
