/-
  Plain mathematics of edits, no Go: what the rope package's functions compute, as functions on lists of edits.; More plain mathematics: what Check's OK says; Apply's result.; Plain mathematics of Diff: common beginnings and ends.; Plain mathematics of layer 3: bytes, runs, words, signs.
-/
import Derived.IntWalk
namespace Go.Proofs.YtkdnacniligjjaaDoor

structure Ed where
  f : Int
  t : Int
  s : ByteArray
  deriving DecidableEq

def isSpanB (a b n : Int) : Bool := decide (0 ≤ a ∧ a ≤ b ∧ b ≤ n)
def rising (n : Int) : Int → List Ed → Bool
  | _, [] => true
  | last, e :: l => decide (last ≤ e.f) && isSpanB e.f e.t n && rising n e.t l
def growE (e : Ed) : Int := (e.s.size : Int) - (e.t - e.f)
def sumG : List Ed → Int
  | [] => 0
  | e :: l => growE e + sumG l
/-- Check of a string of so many bytes. -/
def checkLen (n : Int) (l : List Ed) : Int :=
  if 100 < l.length then 3 else if rising n 0 l = false then 2 else if 20000 < n + sumG l then 7 else 0
def checkE (n : Int) (l : List Ed) : Int := if 20000 < n then 3 else checkLen n l

/-- Lists that are small enough that no sum over them passes an int. -/
def Small (l : List Ed) : Prop := l.length ≤ 1000 ∧ ∀ e ∈ l, e.s.size ≤ 60000

theorem Small.tail {e : Ed} {l : List Ed} (h : Small (e :: l)) : Small l :=
  ⟨by have := h.1; simp at this; omega, fun x hx => h.2 x (by simp [hx])⟩
theorem Small.drop {l : List Ed} (h : Small l) (k : Nat) : Small (l.drop k) :=
  ⟨by have := h.1; simp; omega, fun x hx => h.2 x (List.mem_of_mem_drop hx)⟩
theorem Small.take {l : List Ed} (h : Small l) (k : Nat) : Small (l.take k) :=
  ⟨by have := h.1; simp; omega, fun x hx => h.2 x (List.mem_of_mem_take hx)⟩
theorem Small.get {l : List Ed} (h : Small l) {k : Nat} (hk : k < l.length) : l[k].s.size ≤ 60000 := h.2 _ (List.getElem_mem hk)

theorem rising_cons {n last : Int} {e : Ed} {l : List Ed} : rising n last (e :: l) = true ↔ last ≤ e.f ∧ 0 ≤ e.f ∧ e.f ≤ e.t ∧ e.t ≤ n ∧ rising n e.t l = true := by
  simp only [rising, isSpanB, Bool.and_eq_true, decide_eq_true_eq]
  constructor
  · rintro ⟨⟨h1, h2, h3, h4⟩, hr⟩; exact ⟨h1, h2, h3, h4, hr⟩
  · rintro ⟨h1, h2, h3, h4, hr⟩; exact ⟨⟨h1, h2, h3, h4⟩, hr⟩

/-- what stands at place k of a rising list -/
theorem rising_get {n : Int} : ∀ {l : List Ed} {last : Int}, rising n last l = true → ∀ {k : Nat} (hk : k < l.length), last ≤ l[k].f ∧ 0 ≤ l[k].f ∧ l[k].f ≤ l[k].t ∧ l[k].t ≤ n
  | [], _, _, k, hk => by simp at hk
  | e :: l, last, h, k, hk => by
    rw [rising_cons] at h
    match k with
    | 0 => simp; omega
    | k + 1 =>
      have := rising_get h.2.2.2.2 (k := k) (by simpa using hk)
      simp at this ⊢
      omega
theorem rising_next {n : Int} : ∀ {l : List Ed} {last : Int}, rising n last l = true → ∀ {k : Nat} (hk : k < l.length) (hk1 : k + 1 < l.length), l[k].t ≤ l[k + 1].f
  | [], _, _, k, hk, _ => by simp at hk
  | e :: l, last, h, k, hk, hk1 => by
    rw [rising_cons] at h
    match k with
    | 0 => have := rising_get h.2.2.2.2 (k := 0) (by simpa using hk1); simp; omega
    | k + 1 => simpa using rising_next h.2.2.2.2 (k := k) (by simpa using hk) (by simpa using hk1)
theorem rising_drop {n : Int} : ∀ {l : List Ed} {last : Int} (_ : rising n last l = true) {k : Nat} (hk : k < l.length), rising n l[k].t (l.drop (k + 1)) = true
  | [], _, _, k, hk => by simp at hk
  | e :: l, last, h, k, hk => by
    rw [rising_cons] at h
    match k with
    | 0 => simpa using h.2.2.2.2
    | k + 1 => simpa using rising_drop h.2.2.2.2 (k := k) (by simpa using hk)

theorem sumG_take_succ {l : List Ed} {k : Nat} (hk : k < l.length) : sumG (l.take (k + 1)) = sumG (l.take k) + growE l[k] := by
  induction l generalizing k with
  | nil => simp at hk
  | cons e l ih =>
    match k with
    | 0 => simp [sumG]
    | k + 1 => simp only [List.take_succ_cons, sumG]; rw [ih (by simpa using hk)]; simp; omega
theorem sumG_take_all (l : List Ed) : sumG (l.take l.length) = sumG l := by rw [List.take_length]
/-- bounds of the partial sums, of a list within so many bytes -/
theorem sumG_bd {n : Int} (hn : n ≤ 60000) : ∀ {l : List Ed} {last : Int}, 0 ≤ last → Small l → rising n last l = true → -60000 * (l.length : Int) ≤ sumG l ∧ sumG l ≤ 60000 * (l.length : Int)
  | [], _, _, _, _ => by simp [sumG]
  | e :: l, last, h0, hs, h => by
    rw [rising_cons] at h
    have ih := sumG_bd hn (by omega) hs.tail h.2.2.2.2
    have h1 := hs.2 e (by simp)
    simp only [sumG, growE, List.length_cons]
    omega
theorem rising_take {n : Int} : ∀ {l : List Ed} {last : Int} (_ : rising n last l = true) (k : Nat), rising n last (l.take k) = true
  | [], _, _, k => by simp [rising]
  | e :: l, last, h, 0 => by simp [rising]
  | e :: l, last, h, k + 1 => by
    rw [rising_cons] at h
    rw [List.take_succ_cons, rising_cons]
    exact ⟨h.1, h.2.1, h.2.2.1, h.2.2.2.1, rising_take h.2.2.2.2 k⟩
theorem sumG_take_bd {n : Int} (hn : n ≤ 60000) {l : List Ed} {last : Int} (h0 : 0 ≤ last) (hs : Small l) (h : rising n last l = true) (k : Nat) : -60000000 ≤ sumG (l.take k) ∧ sumG (l.take k) ≤ 60000000 := by
  have := sumG_bd hn h0 (hs.take k) (rising_take h k)
  have h1 := (hs.take k).1
  omega

def isBef (e : Ed) (o : Int) (after : Bool) : Bool := if e.f = o ∧ e.t = o then after else decide (e.t ≤ o)
/-- rope.Move, of edits in rising order -/
def moveE (o : Int) (after : Bool) : Int → List Ed → Int
  | sh, [] => o + sh
  | sh, e :: l => if e.f < o ∧ o < e.t then e.f + sh + e.s.size else if isBef e o after = true then moveE o after (sh + growE e) l else o + sh
def moveErr (l : List Ed) (o : Int) : Int := if 100 < l.length then 3 else if rising 20000 0 l = false ∨ isSpanB 0 o 20000 = false then 2 else 0
def befR (e : Ed) (o : Int) (after : Bool) : Bool := decide (e.t < o) || (decide (e.t = o) && decide (e.f < o)) || (decide (e.f = o) && decide (e.t = o) && after)
/-- the specification's Move -/
def moveR (o : Int) (after : Bool) : Int → List Ed → Int
  | sh, [] => o + sh
  | sh, e :: l => if e.f < o ∧ o < e.t then e.f + sh + e.s.size else if befR e o after = true then moveR o after (sh + growE e) l else moveR o after sh l
theorem moveR_past {n o : Int} {after : Bool} : ∀ {l : List Ed} {last sh : Int}, rising n last l = true → (o < last ∨ (o = last ∧ after = false)) → moveR o after sh l = o + sh
  | [], _, _, _, _ => rfl
  | e :: l, last, sh, h, hl => by
    rw [rising_cons] at h
    have hb : befR e o after = false := by
      unfold befR
      rcases hl with hl | ⟨hl, ha⟩
      · simp; omega
      · simp [ha]; omega
    simp only [moveR, hb]
    rw [if_neg (by omega)]
    refine moveR_past h.2.2.2.2 ?_
    rcases hl with hl | ⟨hl, ha⟩
    · exact .inl (by omega)
    · by_cases hh : o < e.t
      · exact .inl hh
      · exact .inr ⟨by omega, ha⟩
theorem move_same {n o : Int} {after : Bool} : ∀ {l : List Ed} {last sh : Int}, rising n last l = true → moveE o after sh l = moveR o after sh l
  | [], _, _, _ => rfl
  | e :: l, last, sh, h => by
    rw [rising_cons] at h
    simp only [moveE, moveR]
    by_cases h1 : e.f < o ∧ o < e.t
    · rw [if_pos h1, if_pos h1]
    · rw [if_neg h1, if_neg h1]
      have hbb : isBef e o after = befR e o after := by
        unfold isBef befR
        by_cases h2 : e.f = o ∧ e.t = o
        · obtain ⟨rfl, h3⟩ := h2
          simp [h3]
        · rw [if_neg h2, Bool.eq_iff_iff]; simp; omega
      rw [hbb]
      by_cases hb : befR e o after = true
      · rw [if_pos hb, if_pos hb]; exact move_same h.2.2.2.2
      · rw [if_neg hb, if_neg hb]
        refine (moveR_past h.2.2.2.2 ?_).symm
        have hb' : befR e o after = false := Bool.eq_false_iff.2 hb
        by_cases hh : o < e.t
        · exact .inl hh
        · refine .inr ?_
          simp only [befR, Bool.or_eq_false_iff, Bool.and_eq_false_iff, decide_eq_false_iff_not] at hb'
          obtain ⟨⟨b1, b2⟩, b3⟩ := hb'
          have e1 : e.t = o := by omega
          have e2 : e.f = o := by rcases b2 with b2 | b2 <;> omega
          refine ⟨e1.symm, ?_⟩
          rcases b3 with (b3 | b3) | b3
          · exact absurd e2 b3
          · exact absurd e1 b3
          · exact b3

/-! ### The string after edits -/
def sub (t : ByteArray) (a b : Nat) : List UInt8 := (t.extract a b).data.toList
/-- the bytes from a place on up to another, after edits -/
def editedL (t : ByteArray) (to : Nat) : Nat → List Ed → List UInt8
  | a, [] => sub t a to
  | a, e :: l => sub t a e.f.toNat ++ (e.s.data.toList ++ editedL t to e.t.toNat l)
def mkB (l : List UInt8) : ByteArray := ⟨l.toArray⟩
/-- the string after edits -/
def applyB (t : ByteArray) (l : List Ed) : ByteArray := mkB (editedL t t.size 0 l)

theorem sub_eq (t : ByteArray) (a b : Nat) : sub t a b = (t.data.toList.drop a).take (b - a) := by
  unfold sub
  rw [ByteArray.data_extract, Array.toList_extract]
theorem sub_length (t : ByteArray) (a b : Nat) : (sub t a b).length = min b t.size - a := by
  unfold sub; rw [Array.length_toList]; show (t.extract a b).size = _; rw [ByteArray.size_extract]
theorem sub_le (t : ByteArray) (a b : Nat) : (sub t a b).length ≤ t.size := by rw [sub_length]; omega
theorem mkB_size (l : List UInt8) : (mkB l).size = l.length := by show l.toArray.size = l.length; simp
theorem mkB_inj {a b : List UInt8} (h : mkB a = mkB b) : a = b := by
  have := congrArg (fun x : ByteArray => x.data.toList) h
  simpa [mkB] using this
theorem mkB_toList (l : List UInt8) : (mkB l).data.toList = l := by simp [mkB]
theorem mkB_of (t : ByteArray) : mkB t.data.toList = t := by cases t; simp [mkB]
theorem size_toList (t : ByteArray) : t.data.toList.length = t.size := Array.length_toList
end Go.Proofs.YtkdnacniligjjaaDoor

namespace Go.Proofs.YtkdnacniligjjaaDoor

theorem checkE_ok {n : Int} {l : List Ed} (h : checkE n l = 0) : n ≤ 20000 ∧ l.length ≤ 100 ∧ rising n 0 l = true ∧ n + sumG l ≤ 20000 := by
  unfold checkE checkLen at h
  by_cases h1 : 20000 < n
  · rw [if_pos h1] at h; omega
  · rw [if_neg h1] at h
    by_cases h2 : 100 < l.length
    · rw [if_pos h2] at h; omega
    · rw [if_neg h2] at h
      by_cases h3 : rising n 0 l = false
      · rw [if_pos h3] at h; omega
      · rw [if_neg h3] at h
        by_cases h4 : 20000 < n + sumG l
        · rw [if_pos h4] at h; omega
        · exact ⟨by omega, by omega, by simpa using h3, by omega⟩
theorem checkE_of {n : Int} {l : List Ed} (h1 : n ≤ 20000) (h2 : l.length ≤ 100) (h3 : rising n 0 l = true) (h4 : n + sumG l ≤ 20000) : checkE n l = 0 := by
  unfold checkE checkLen
  rw [if_neg (by omega), if_neg (by omega), if_neg (by rw [h3]; simp), if_neg (by omega)]
/-- Apply's string -/
def applyR (t : ByteArray) (l : List Ed) : ByteArray := if checkE t.size l = 0 then applyB t l else ByteArray.empty
theorem applyR_ok {t : ByteArray} {l : List Ed} (h : checkE t.size l = 0) : applyR t l = applyB t l := by unfold applyR; rw [if_pos h]
theorem applyR_no {t : ByteArray} {l : List Ed} (h : checkE t.size l ≠ 0) : applyR t l = ByteArray.empty := by unfold applyR; rw [if_neg h]
theorem mkB_add (l : List UInt8) (s : ByteArray) : mkB l ++ s = mkB (l ++ s.data.toList) := by
  apply ByteArray.ext
  simp [mkB, ByteArray.data_append]
end Go.Proofs.YtkdnacniligjjaaDoor

namespace Go.Proofs.YtkdnacniligjjaaDoor
set_option linter.unusedVariables false
set_option linter.unusedSimpArgs false

/-- how many equal bytes two lists begin with -/
def cpre : List UInt8 → List UInt8 → Nat
  | a :: x, b :: y => if a = b then cpre x y + 1 else 0
  | _, _ => 0
theorem cpre_le : ∀ (x y : List UInt8), cpre x y ≤ x.length ∧ cpre x y ≤ y.length
  | [], y => by simp [cpre]
  | a :: x, [] => by simp [cpre]
  | a :: x, b :: y => by
    have := cpre_le x y
    simp only [cpre, List.length_cons]
    split <;> omega
theorem cpre_step {x y : List UInt8} {k : Nat} (hx : k < x.length) (hy : k < y.length) (h : x[k] = y[k]) : cpre (x.drop k) (y.drop k) = cpre (x.drop (k + 1)) (y.drop (k + 1)) + 1 := by
  rw [List.drop_eq_getElem_cons hx, List.drop_eq_getElem_cons hy]
  simp [cpre, h]
theorem cpre_stop {x y : List UInt8} {k : Nat} (hx : k < x.length) (hy : k < y.length) (h : x[k] ≠ y[k]) : cpre (x.drop k) (y.drop k) = 0 := by
  rw [List.drop_eq_getElem_cons hx, List.drop_eq_getElem_cons hy]
  simp [cpre, h]
theorem cpre_end {x y : List UInt8} {k : Nat} (h : x.length ≤ k ∨ y.length ≤ k) : cpre (x.drop k) (y.drop k) = 0 := by
  rcases h with h | h
  · rw [List.drop_of_length_le h]; simp [cpre]
  · rw [List.drop_of_length_le h]; cases x.drop k <;> simp [cpre]
def byt (s : ByteArray) : List UInt8 := s.data.toList
theorem byt_length (s : ByteArray) : (byt s).length = s.size := size_toList s
theorem byt_get (s : ByteArray) (k : Nat) (h : k < s.size) (h2 : k < (byt s).length) : (byt s)[k] = s[k] := rfl
/-- the byte that many from the end -/
theorem rev_get (s : ByteArray) (k : Nat) (h : k < s.size) (h2 : k < (byt s).reverse.length) : (byt s).reverse[k] = s[s.size - 1 - k]'(by omega) := by
  rw [List.getElem_reverse]
  have e : (byt s).length - 1 - k = s.size - 1 - k := by rw [byt_length]
  have : (byt s)[(byt s).length - 1 - k]'(by rw [byt_length]; omega) = (byt s)[s.size - 1 - k]'(by rw [byt_length]; omega) := getElem_congr_idx e
  exact this
theorem rev_length (s : ByteArray) : (byt s).reverse.length = s.size := by rw [List.length_reverse, byt_length]
theorem byt_drop (s : ByteArray) (p : Nat) : byt (s.extract p s.size) = (byt s).drop p := by
  show sub s p s.size = _
  rw [sub_eq]
  apply List.take_of_length_le
  simp
def diffL (a b : ByteArray) : List Ed :=
  if a = b then []
  else [⟨cpre (byt a) (byt b), (a.size : Int) - cpre ((byt a).drop (cpre (byt a) (byt b))).reverse ((byt b).drop (cpre (byt a) (byt b))).reverse,
    b.extract (cpre (byt a) (byt b)) (b.size - cpre ((byt a).drop (cpre (byt a) (byt b))).reverse ((byt b).drop (cpre (byt a) (byt b))).reverse)⟩]
end Go.Proofs.YtkdnacniligjjaaDoor

namespace Go.Proofs.YtkdnacniligjjaaDoor
set_option linter.unusedVariables false
set_option linter.unusedSimpArgs false

def blankB (b : UInt8) : Bool := (b.toNat : Int) == 32 || (b.toNat : Int) == 9 || (b.toNat : Int) == 10 || (b.toNat : Int) == 13
def digitB (b : UInt8) : Bool := decide (48 ≤ (b.toNat : Int)) && decide ((b.toNat : Int) ≤ 57)
def greatB (b : UInt8) : Bool := decide (65 ≤ (b.toNat : Int)) && decide ((b.toNat : Int) ≤ 90)
def partB (b : UInt8) : Bool := decide (97 ≤ (b.toNat : Int)) && decide ((b.toNat : Int) ≤ 122) || greatB b || digitB b || (b.toNat : Int) == 95
def lineB (b : UInt8) : Bool := (b.toNat : Int) != 10

/-- how many bytes of one sort are at the beginning -/
def runL (p : UInt8 → Bool) : List UInt8 → Nat
  | [] => 0
  | b :: l => if p b then runL p l + 1 else 0
theorem runL_le (p : UInt8 → Bool) : ∀ l, runL p l ≤ l.length
  | [] => Nat.le_refl _
  | b :: l => by simp only [runL]; split <;> simp <;> have := runL_le p l <;> omega
theorem runL_step {p : UInt8 → Bool} {l : List UInt8} {k : Nat} (h : k < l.length) (hp : p l[k] = true) : runL p (l.drop k) = runL p (l.drop (k + 1)) + 1 := by
  rw [List.drop_eq_getElem_cons h]; simp only [runL]; rw [if_pos hp]
theorem runL_stop {p : UInt8 → Bool} {l : List UInt8} {k : Nat} (h : k < l.length) (hp : p l[k] = false) : runL p (l.drop k) = 0 := by
  rw [List.drop_eq_getElem_cons h]; simp only [runL]; rw [if_neg (by simp [hp])]
theorem runL_end {p : UInt8 → Bool} {l : List UInt8} {k : Nat} (h : l.length ≤ k) : runL p (l.drop k) = 0 := by rw [List.drop_eq_nil_of_le h]; rfl

/-- the words and the signs of the chapter, in rising order -/
def wordsB : List ByteArray := [mkB [100, 101, 102], mkB [101, 108, 115, 101], mkB [102, 97, 108, 115, 101], mkB [102, 110], mkB [105, 102], mkB [105, 109, 112, 111, 114, 116], mkB [105, 110], mkB [108, 101, 116], mkB [109, 97, 116, 99, 104], mkB [116, 104, 101, 110], mkB [116, 114, 117, 101], mkB [116, 121, 112, 101]]
def signsB : List ByteArray := [mkB [33], mkB [38, 38], mkB [40], mkB [41], mkB [42], mkB [43], mkB [44], mkB [45], mkB [45, 62], mkB [46], mkB [58], mkB [59], mkB [60], mkB [61], mkB [61, 61], mkB [61, 62], mkB [91], mkB [93], mkB [123], mkB [124], mkB [124, 124], mkB [125]]
theorem wordsB_length : wordsB.length = 12 := rfl
theorem signsB_length : signsB.length = 22 := rfl
/-- does a text begin with another one? -/
def preB (s p : ByteArray) : Bool := decide (p.size ≤ s.size) && decide (s.extract 0 p.size = p)
/-- the size of the last of some first signs that a text begins with -/
def signTo (s : ByteArray) : Nat → Nat
  | 0 => 0
  | k + 1 => if preB s (signsB[k]?.getD ByteArray.empty) then (signsB[k]?.getD ByteArray.empty).size else signTo s k
def signN (s : ByteArray) : Nat := signTo s 22
/-- is a text one of the first words? -/
def wordTo (s : ByteArray) : Nat → Bool
  | 0 => false
  | k + 1 => wordTo s k || decide (s = wordsB[k]?.getD ByteArray.empty)
def wordB (s : ByteArray) : Bool := wordTo s 12
theorem wordTo_mono {s : ByteArray} {k : Nat} (h : wordTo s k = true) : ∀ {m : Nat}, k ≤ m → wordTo s m = true
  | 0, hm => by rw [show k = 0 by omega] at h; exact h
  | m + 1, hm => by
    by_cases hk : k = m + 1
    · rw [← hk]; exact h
    · simp only [wordTo]; rw [wordTo_mono h (show k ≤ m by omega)]; rfl

def b0 (s : ByteArray) : UInt8 := (byt s).getD 0 0
def b1 (s : ByteArray) : UInt8 := (byt s).getD 1 0
theorem b0_eq {s : ByteArray} (h : 0 < s.size) : b0 s = s[0]'h := by
  unfold b0
  rw [List.getD_eq_getElem?_getD, List.getElem?_eq_getElem (by rw [byt_length]; exact h)]; rfl
theorem b1_eq {s : ByteArray} (h : 1 < s.size) : b1 s = s[1]'h := by
  unfold b1
  rw [List.getD_eq_getElem?_getD, List.getElem?_eq_getElem (by rw [byt_length]; exact h)]; rfl
theorem bytj {a b : ByteArray} (h : byt a = byt b) : a = b := by
  apply ByteArray.ext; exact Array.toList_inj.1 h
theorem tail_size (s : ByteArray) (k : Nat) : (s.extract k s.size).size = s.size - k := by rw [ByteArray.size_extract]; omega
theorem tail_tail (s : ByteArray) (k m : Nat) : (s.extract k s.size).extract m (s.extract k s.size).size = s.extract (k + m) s.size := by
  apply bytj; rw [byt_drop, byt_drop, byt_drop, List.drop_drop]
theorem b0_tail {s : ByteArray} {k : Nat} (h : k < s.size) : b0 (s.extract k s.size) = s[k]'h := by
  unfold b0
  rw [byt_drop, List.getD_eq_getElem?_getD, List.getElem?_drop, Nat.add_zero, List.getElem?_eq_getElem (by rw [byt_length]; exact h)]; rfl

/-- a pair from a backslash on; a byte of a TkText: what it stands for, and how many bytes it has -/
def pairP (s : ByteArray) : Int × Nat :=
  if s.size < 2 then (0, 0) else if ((b1 s).toNat : Int) == 110 then (10, 2) else if ((b1 s).toNat : Int) == 34 then (((b1 s).toNat : Int), 2) else if ((b1 s).toNat : Int) == 92 then (((b1 s).toNat : Int), 2) else (0, 0)
def plainP (s : ByteArray) : Int × Nat :=
  if ((b0 s).toNat : Int) == 34 then (0, 0) else if ((b0 s).toNat : Int) == 10 then (0, 0) else if ((b0 s).toNat : Int) == 92 then pairP s else (((b0 s).toNat : Int), 1)
theorem pairP_le (s : ByteArray) : (pairP s).2 ≤ s.size ∧ (pairP s).2 ≤ 2 := by
  unfold pairP; repeat' split
  all_goals first | (simp; done) | (simp; omega)
theorem plainP_le {s : ByteArray} (h : 0 < s.size) : (plainP s).2 ≤ s.size ∧ (plainP s).2 ≤ 2 := by
  have := pairP_le s
  unfold plainP; repeat' split
  all_goals first | exact this | (simp; done) | (simp; omega)

def slashes : ByteArray := { data := #[47, 47] }
/-- the kind of token that the first bytes let expect -/
def beginK (s : ByteArray) : Int :=
  if blankB (b0 s) then 1 else if preB s slashes then 2 else if digitB (b0 s) then 5 else if partB (b0 s) then 3 else if ((b0 s).toNat : Int) == 34 then 6 else if 0 < signN s then 7 else 8
theorem beginK_is (s : ByteArray) : beginK s = 1 ∨ beginK s = 2 ∨ beginK s = 3 ∨ beginK s = 5 ∨ beginK s = 6 ∨ beginK s = 7 ∨ beginK s = 8 := by
  obtain ⟨x, hx⟩ : ∃ x, x = beginK s := ⟨_, rfl⟩
  rw [← hx]
  unfold beginK at hx
  repeat' split at hx
  all_goals omega

/-- the end of a text that begins at a quotation mark, if there is one -/
def textF : Nat → ByteArray → Nat → Option Nat
  | 0, _, _ => none
  | f + 1, s, k => if s.size = 0 then none else if 0 < (plainP s).2 then textF f (s.extract (plainP s).2 s.size) (k + (plainP s).2) else if ((b0 s).toNat : Int) == 34 then some (k + 1) else none
def textE (s : ByteArray) : Option Nat := textF s.size (s.extract 1 s.size) 1
def badF : Nat → ByteArray → Nat → Nat
  | 0, _, k => k
  | f + 1, s, k => if beginK (s.extract k s.size) = 8 then badF f s (k + 1) else k
def badN (s : ByteArray) : Nat := badF (s.size - 1) s 1
def nameP (s : ByteArray) : Int × Nat := (if wordB (s.extract 0 (runL partB (byt s))) then 4 else 3, runL partB (byt s))
def textP (s : ByteArray) : Int × Nat := match textE s with
  | some n => (6, n)
  | none => (8, runL lineB (byt s))
/-- the kind and the size of the first token -/
def firstP (s : ByteArray) : Int × Nat :=
  if beginK s = 1 then (1, runL blankB (byt s)) else if beginK s = 2 then (2, runL lineB (byt s)) else if beginK s = 3 then nameP s else if beginK s = 5 then (5, runL digitB (byt s)) else if beginK s = 6 then textP s else if beginK s = 7 then (7, signN s) else (8, badN s)
abbrev Tok := Int × ByteArray
/-- the tokens of a string -/
def lexF : Nat → ByteArray → List Tok
  | 0, _ => []
  | f + 1, s => if s.size = 0 then [] else ((firstP s).1, s.extract 0 (firstP s).2) :: lexF f (s.extract (firstP s).2 s.size)
def lexL (s : ByteArray) : List Tok := lexF s.size s
end Go.Proofs.YtkdnacniligjjaaDoor
